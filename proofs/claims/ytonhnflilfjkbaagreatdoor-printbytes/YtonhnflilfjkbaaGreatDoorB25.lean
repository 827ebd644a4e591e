/-
  Texts in one: Ref04Rawff, Ref04Raw2, PrintLineF, Ref08Line, Ref04Shape, Ref06Part, Ref06Quoted.
-/
import Derived.Test.YtonhnflilfjkbaaGreatDoorB24
import Derived.Test.YtonhnflilfjkbaaGreatDoorB21
namespace Go.Proofs.YtonhnflilfjkbaaGreatDoor
open Go.RowKit
set_option linter.unusedVariables false
set_option linter.unusedSimpArgs false
set_option maxRecDepth 10000
set_option maxHeartbeats 8000000 in
theorem refRaw4_ff (xo xt xr:Int) (xl:List ArgT) (b:Int) (ax:Option Addr) (n cx:Nat) (w:World) (hv:ArgsV w ax xl) (hok:InstOk (xo,xt,xr,xl)) (hl:xl.length=n) (b0:0≤b) (b1:b<4294967296)
  (nm fx rs:ByteArray) (mo pa:Int) (hf:lookF refT xo=((nm,false,false,fx,rs,mo,pa),true)) (hE:rawE (xo,xt,xr,xl) b=0) (hln:(rawL (nm,false,false,fx,rs,mo,pa) (xo,xt,xr,xl)).length≤65535)
  (hnul:∀ k,k<n→(nthA xl k).1=3→NoNul (nthA xl k).2.2) :
  Calls Tryz.prog 24 #[instV (xo,xt,xr,xl) ax n cx,.int .u32 b] w fun e w'=>Below w.heap.size w w'∧∃ a m c,e=.returned (.tuple #[.agg #[.int .u16 xo,.slice a m c],.int .i64 0])∧(rawL (nm,false,false,fx,rs,mo,pa) (xo,xt,xr,xl)).length=m ∧
   w'.ownsRow w.heap.size 22 1 (.slice a m c) m ((rawL (nm,false,false,fx,rs,mo,pa) (xo,xt,xr,xl)).map (Value.int .u32)):=by
 obtain⟨i0,hi,hz0,hz1,hz2⟩:=info_parts Raw4.info
 have HI:Hid (Tryz.prog.info? 22=some i0∧i0.zero=some (.int .u32 0)∧i0.size=1∧i0.bytes=4):=⟨hi,hz0,hz1,hz2⟩
 have hF:=fun (wx:World) (hb:Below w.heap.size w wx)=>refFault4_any (xo,xt,xr,xl) b ax n cx wx (hv.below hb) hok hl b0 b1
 rw [hE] at hF
 have hOf:=fun wx=>refOf_any xo wx
 have eV:ofV xo=formV xo (nm,false,false,fx,rs,mo,pa):=by unfold ofV;rw [hf];rfl
 rw [eV,hf] at hOf
 unfold formV at hOf
 unfold instV at hF ⊢
 simp only at hF hOf ⊢
 obtain⟨q0,q1,q2,q3,q4,q5,q6,q7⟩:=hok
 simp only at q0 q1 q2 q3 q4 q5 q6 q7
 rw [hl] at q7
 have HV:=hide hv
 have HL:=hide hl
 have HQ6:=hide q6
 have HNUL:=hide hnul
 have HN:Hid (24 * n≤140737488351232):=q7
 have HLN:=hide hln
 have HTAKE:Hid (∀ k,k<n→wordsL (xl.take (k+1))=wordsL (xl.take k)++wordsA (nthA xl k)):=fun k hk=>wordsL_take xl k (by omega)
 have HLE:Hid (∀ k,(wordsL (xl.take k)).length≤(wordsL xl).length):=words_le xl
 have HALL:Hid (wordsL (xl.take n)=wordsL xl):=by show _=_;rw [List.take_of_length_le (by omega)]
 clear hv hl hE hf eV q0 q1 q2 q3 q4 q5 q6 q7 hnul hln
 have hbel0:Below w.heap.size w ((w.alloc (.cells #[.int .u16 xo,.int .u32 xt,.int .u32 xr,.slice ax n cx] 38)).alloc (.cells #[.int .u16 0,.slice none 0 0] 54)):=((Below.refl _ w).alloc (Nat.le_refl _) _).alloc (by simp) _
 have kI:((w.alloc (.cells #[.int .u16 xo,.int .u32 xt,.int .u32 xr,.slice ax n cx] 38)).alloc (.cells #[.int .u16 0,.slice none 0 0] 54)).heap[w.heap.size]?=some (.cells #[.int .u16 xo,.int .u32 xt,.int .u32 xr,.slice ax n cx] 38 (0,0)):=(Below.heap_alloc _ _ _ (by simp)).trans (alloc_new w _ _)
 have kR:((w.alloc (.cells #[.int .u16 xo,.int .u32 xt,.int .u32 xr,.slice ax n cx] 38)).alloc (.cells #[.int .u16 0,.slice none 0 0] 54)).heap[w.heap.size+1]?=some (.cells #[.int .u16 0,.slice none 0 0] 54 (0,0)):=by simpa using alloc_new (w.alloc (.cells #[.int .u16 xo,.int .u32 xt,.int .u32 xr,.slice ax n cx] 38)) #[.int .u16 0,.slice none 0 0] 54
 go_enter Tryz.func24,Tryz.ntmps24
 go_wp2_with fail
 generalize (w.alloc (.cells #[.int .u16 xo,.int .u32 xt,.int .u32 xr,.slice ax n cx] 38)).alloc (.cells #[.int .u16 0,.slice none 0 0] 54)=W0 at *
 refine (hF _ hbel0).mono ?_
 rintro e w1 ⟨rfl,hb1⟩
 have sR:=(Array.getElem?_eq_some_iff.1 kR).1
 have kI1:=(hb1.block _ (by omega)).trans kI
 have kR1:=(hb1.block _ sR).trans kR
 have hbel1:=hbel0.trans (hb1.mono (by omega))
 have i0':=(one_block kI1).1 0
 clear hF hb1 kI kR hbel0 hi hz0 hz1 hz2
 have s1:=(Array.getElem?_eq_some_iff.1 kR1).1
 go_wp2_with fail
 refine (hOf _).mono ?_
 rintro e w2 ⟨rfl,hb2⟩
 have s2:=hb2.size
 have kI2:=(hb2.block _ (by omega)).trans kI1
 have kR2:=(hb2.block _ s1).trans kR1
 have hbel2:=hbel1.trans (hb2.mono (by omega))
 have s3:w.heap.size<w2.heap.size:=by omega
 have j0:=(one_block kI2).1 0
 have j1:=(one_block kI2).1 1
 have j2:=(one_block kI2).1 2
 clear hOf hb2 kI1 kR1 hbel1 i0'
 have hbA:Below w2.heap.size w2 ((w2.alloc (.cells #[.int .u16 xo,.string nm,.bool false,.bool false,.string fx,.string rs,.int .i64 mo,.int .u8 pa] 66)).alloc (.cells #[.int .u16 xo,.slice none 0 0] 54)):=((Below.refl _ w2).alloc (Nat.le_refl _) _).alloc (by simp) _
 have hS0:RawS w ((w2.alloc (.cells #[.int .u16 xo,.string nm,.bool false,.bool false,.string fx,.string rs,.int .i64 mo,.int .u8 pa] 66)).alloc (.cells #[.int .u16 xo,.slice none 0 0] 54)) xo xt xr ax n cx (w2.heap.size+1) (.slice none 0 0) [] :=
  ⟨World.ownsRow_nil _ _ _ _,by simpa using alloc_new (w2.alloc (.cells #[.int .u16 xo,.string nm,.bool false,.bool false,.string fx,.string rs,.int .i64 mo,.int .u8 pa] 66)) #[.int .u16 xo,.slice none 0 0] 54,(hbA.block _ (by omega)).trans kI2,(hbA.block _ (by omega)).trans kR2,hbel2.trans (hbA.mono (by omega)),by omega⟩
 have kF:((w2.alloc (.cells #[.int .u16 xo,.string nm,.bool false,.bool false,.string fx,.string rs,.int .i64 mo,.int .u8 pa] 66)).alloc (.cells #[.int .u16 xo,.slice none 0 0] 54)).heap[w2.heap.size]?=some (.cells #[.int .u16 xo,.string nm,.bool false,.bool false,.string fx,.string rs,.int .i64 mo,.int .u8 pa] 66 (0,0)):=(Below.heap_alloc _ _ _ (by simp)).trans (alloc_new w2 _ _)
 clear kI2 kR2 hbel2 hbA
 have HT:=hide hS0
 have HKF:=hide kF
 clear hS0 kF
 have HZS:Hid ((rawL (nm,false,false,fx,rs,mo,pa) (xo,xt,xr,xl))=wordsL xl):=rfl
 go_wp2_with fail
 generalize World.alloc (World.alloc _ _) _=WT at *
 generalize hB:w2.heap.size+1=B at *
 clear hB
 clear j0
 go_loopw [10] (fun i wr=>∃ (k:Nat) (v:Value),k≤n∧i=.int .i64 k∧RawS w wr xo xt xr ax n cx B v (wordsL (xl.take k))) (fun i _=>n - (intOf i).toNat)
 case atStart=>exact⟨0,_,Nat.zero_le _,rfl,by simpa [wordsL] using HT.out⟩
 case round =>
  obtain⟨k,v,hk,rfl,hS⟩:=hrel
  clear HT
  have hA:=HV.out.below hS.bel
  obtain⟨a7,c7,rfl⟩:=own_shape hS.own
  have i3:=(one_block hS.inst).1 3
  have r1:=(one_block hS.box).1 1
  have sB:=hS.size
  have slt:=hS.lt
  have hap:=hS.apart
  have HAP:=hide hap
  have hnb:(n:Int)≤140737488351232:=by have:=HN.out;omega
  by_cases hlt:k<n
  ·obtain⟨g1,o1,rfl,hg1,p1,p2,p3⟩:=hA k (by rw [HL.out];exact hlt)
   have hki:(k:Int)<(n:Int):=by omega
   have hk0:(0:Int)≤(k:Int):=by omega
   have hTk:=HTAKE.out k hlt
   have hle:=HLE.out (k+1)
   rw [hTk] at hle
   have hLN:(wordsL xl).length≤65535:=by rw [← HZS.out];exact HLN.out
   obtain⟨_,_,_,_,hsz⟩:=HQ6.out k (by rw [HL.out];exact hlt)
   have hNU:=HNUL.out k hlt
   have HTK:=hide hTk
   have hzl:(wordsL (xl.take k)).length+(wordsA (nthA xl k)).length≤65535:=by
    simp only [List.length_append] at hle hLN ⊢;omega
   have HZL:=hide hzl
   clear hTk hle hLN hzl hA hap
   generalize hzs:wordsL (xl.take k)=zs at *
   have HNX:Hid (wordsL (xl.take (k+1))=zs++wordsA (nthA xl k)):=by show _=_;rw [HTK.out]
   clear hzs HTK
   generalize nthA xl k=z at *
   obtain⟨z1,z2,z3⟩:=z
   simp only at *
   by_cases h3:z1=3
   ·subst h3
    have eW:wordsA (3,z2,z3)=textW z3:=by simp [wordsA]
    rw [eW] at HNX HZL
    clear eW
    have hT:=fun wx=>refOfText_new z3 wx (hNU rfl) (by have:=HZL.out;rw [textW_len] at this;omega)
    have HS:=hide hS
    clear hS
    go_wp2_with fail
    refine (hT _).mono ?_
    rintro e w8 ⟨ay,m,rfl,hm,hvw,hnew,hb8⟩
    have hS8:=HS.out.below hb8
    have s8:=hb8.size
    have hap8:∀ b off s,ay=some ⟨b,off,s⟩→wr.heap.size≤b:=hnew
    have hap9:=HAP.out
    have HW0:Hid (∀ b off,ay=some ⟨b,off,none⟩→b≠B∧Value.ownBlock (.slice a7 zs.length c7)≠some b):=fun b off e=>by
     have h1:=hap8 b off none e
     refine⟨by omega,fun e2=>?_⟩
     have:=HS.out.own.lt b e2
     omega
    have HS8:=hide hS8
    have HV8:=hide hvw
    have hmm:zs.length+m≤65535:=by rw [← hm];exact HZL.out
    have HM:=hide hm
    have HMM:=hide hmm
    have hmi:(m:Int)≤65535:=by omega
    clear hT hb8 hS8 hnew hvw HS hm hmm i3 r1 hap8 hap9 p1 p2 p3 HZL
    go_wp2_with fail
    go_loopw [13] (fun i wx=>∃ (t:Nat) (v:Value),t≤m∧i=.int .i64 t∧RawS w wx xo xt xr (some ⟨g1,o1,none⟩) n cx B v (zs++(textW z3).take t)∧View .u32 wx ay (textW z3)∧Hid (∀ b off,ay=some ⟨b,off,none⟩→b≠B∧v.ownBlock≠some b)) (fun i _=>m - (intOf i).toNat)
    case atStart=>exact⟨0,_,Nat.zero_le _,rfl,by simpa using HS8.out,HV8.out,HW0⟩
    case round =>
     obtain⟨t,v9,ht,rfl,hS,hvw,HAY⟩:=hrel
     clear HS8 HV8 HW0
     obtain⟨a9,c9,rfl⟩:=own_shape hS.own
     have r1:=(one_block hS.box).1 1
     have sB9:=hS.size
     have hap9:=hS.apart
     by_cases htl:t<m
     ·have hti:(t:Int)<(m:Int):=by omega
      have ht0:(0:Int)≤(t:Int):=by omega
      have htw:t<(textW z3).length:=by rw [HM.out];exact htl
      obtain⟨g5,o5,rfl,hg5,c5⟩:=hvw t htw
      have HAY2:=HAY.out g5 o5 rfl
      have hzt:(zs++(textW z3).take t).length=zs.length+t:=by simp;omega
      have HNX2:Hid (zs++(textW z3).take (t+1)=(zs++(textW z3).take t)++[nth (textW z3) t]):=by
       show _=_
       rw [List.take_succ_eq_append_getElem htw,← List.append_assoc]
       simp [nth,List.getD,htw]
      have hmm:=HMM.out
      generalize nth (textW z3) t=y at c5 HNX2
      generalize hzs2:zs++(textW z3).take t=zt at *
      have HVW:=hide hvw
      have hown:=hS.own
      have HSx:=hide hS
      have HAP9:=hide hap9
      have HZT:=hide hzt
      have hzb:zt.length+1≤65535:=by rw [hzt];omega
      obtain⟨hi,hz0,hz1,hz2⟩:=HI.out
      clear hS hvw hzs2 hzt hap9 htw hmm
      go_wp2
      go_region_law ((refine step_append_lies _ (by rfl) _ _ _ (by rfl) (B+1) 22 i0 (.int .u32 0) 1 4 Tryz.underlying52 hi hz0 hz1 hz2 rfl (by omega) (.slice a9 zt.length c9) zt.length _ (by rfl) ((hown.alloc _).drew) ⟨wr.heap.size,0,none⟩ 1 1 [.int .u32 y] (by rfl) (by rfl) (World.news_of_block (cs:=#[.int .u32 y]) (t:=22) (fr:=(0,0)) (heap_alloc_new wr _)) (by simp [Value.oneCell']) (by omega) (by unfold maxLen;omega) (by omega) (by simp;omega) (wr.heap.size+1) (by simp) ?_;intro g3 cap3 w3 hown3 hgrow3 hat3 hlt3;have kb3:=(hgrow3.block B (by simp;omega) (fun e=>by have:=HAP9.out _ e.symm;omega)).trans ((Below.heap_alloc wr _ _ sB9).trans HSx.out.box);obtain⟨m0,m2⟩:=one_block kb3;have m3:=m0 1;have m4:=m2 1))
      all_goals
       have hSd:=HSx.out.below (((Below.refl _ wr).alloc (Nat.le_refl _) (.cells #[.int .u32 y] 22)).drew)
       have hVd:=HVW.out.below (((Below.refl _ wr).alloc (Nat.le_refl _) (.cells #[.int .u32 y] 22)).drew)
       have HP:=hide (hSd.push (y:=y) hgrow3 (by simpa using hown3))
       have HQ:=hide (hSd.view (v':=.slice (some ⟨g3,0,none⟩) (zt.length+1) cap3) hgrow3 hVd (fun b off e=>by cases e;exact HAY2))
       have HR:Hid (∀ b off,some (⟨g5,o5,none⟩:Addr)=some ⟨b,off,none⟩→b≠B∧Value.ownBlock (.slice (some ⟨g3,0,none⟩) (zt.length+1) cap3)≠some b):=fun b off e=>by
        cases e
        refine⟨HAY2.1,fun e2=>?_⟩
        simp [Value.ownBlock] at e2
        rcases hat3 with h9 | h9
        ·rw [e2] at h9;exact HAY2.2 h9
        ·omega
       clear hSd hVd hown hown3 hgrow3 hat3 hlt3 kb3 m0 m2 m3 m4 HSx HVW r1 c5
       go_wp2_with fail
       go_roundw
       case rel=>exact⟨t+1,_,by omega,by go_num,by rw [HNX2.out];exact HP.out,HQ.out,HR⟩
       case measure=>simp [intOf];omega
     ·obtain rfl:t=m:=by omega
      have e1:(textW z3).take t=textW z3:=List.take_of_length_le (by rw [HM.out];exact Nat.le_refl _)
      rw [e1] at hS
      have HSx:=hide hS
      clear hS hvw e1 r1 hap9
      go_wp2_with fail
      go_roundw
      case rel=>exact⟨k+1,_,by omega,by go_num,by rw [HNX.out];exact HSx.out⟩
      case measure=>simp [intOf];omega
   ·have h3':(z1 != 3)=true:=by simp [h3]
    have eW:wordsA (z1,z2,z3)=[z2]:=by simp [wordsA,h3]
    rw [eW] at HNX HZL
    have hzb:zs.length+1≤65535:=HZL.out
    have hown:=hS.own
    have HSx:=hide hS
    obtain⟨hi,hz0,hz1,hz2⟩:=HI.out
    clear hS eW HZL hNU h3
    go_wp2
    go_region_law ((refine step_append_lies _ (by rfl) _ _ _ (by rfl) (B+1) 22 i0 (.int .u32 0) 1 4 Tryz.underlying52 hi hz0 hz1 hz2 rfl (by omega) (.slice a7 zs.length c7) zs.length _ (by rfl) ((hown.alloc _).drew) ⟨wr.heap.size,0,none⟩ 1 1 [.int .u32 z2] (by rfl) (by rfl) (World.news_of_block (cs:=#[.int .u32 z2]) (t:=22) (fr:=(0,0)) (heap_alloc_new wr _)) (by simp [Value.oneCell']) (by omega) (by unfold maxLen;omega) (by omega) (by simp;omega) (wr.heap.size+1) (by simp) ?_;intro g3 cap3 w3 hown3 hgrow3 hat3 hlt3;have kb3:=(hgrow3.block B (by simp;omega) (fun e=>by have:=HAP.out _ e.symm;omega)).trans ((Below.heap_alloc wr _ _ sB).trans HSx.out.box);obtain⟨m0,m2⟩:=one_block kb3;have m3:=m0 1;have m4:=m2 1))
    all_goals
     have hSd:=HSx.out.below (((Below.refl _ wr).alloc (Nat.le_refl _) (.cells #[.int .u32 z2] 22)).drew)
     have HP:=hide (hSd.push (y:=z2) hgrow3 (by simpa using hown3))
     clear hSd hown hown3 hgrow3 hat3 hlt3 kb3 m0 m2 m3 m4 HSx r1 i3 p1 p2 p3
     go_wp2_with fail
     go_roundw
     case rel=>exact⟨k+1,_,by omega,by go_num,by rw [HNX.out];exact HP.out⟩
     case measure=>simp [intOf];omega
  ·obtain rfl:k=n:=by omega
   rw [HALL.out,← HZS.out] at hS
   clear r1 HAP HZS HLN HALL HLE HTAKE
   generalize hRL:rawL (nm,false,false,fx,rs,mo,pa) (xo,xt,xr,xl)=RL at *
   have HRL:=hide hRL
   clear hRL
   have b0:=(one_block hS.box).1 0
   have b1':=(one_block hS.box).1 1
   have hres:=hS.res
   have rf:=(one_block hres).2
   have rf0:=rf 0
   have rf1:=rf 1
   have q0:=(one_block hres).1 0
   have q1:=(one_block hres).1 1
   have sres:=(Array.getElem?_eq_some_iff.1 hres).1
   have HB3:=hide (two_put2 hres (.int .u16 xo) (.slice a7 RL.length c7))
   have HBel:=hide ((hS.bel.setCell (p:=⟨w.heap.size+1,0,none⟩) (by simp) (.int .u16 xo)).setCell (p:=⟨w.heap.size+1,1,none⟩) (by simp) (.slice a7 RL.length c7))
   have HOw:=hide (ownsRow_setCell_below (ownsRow_setCell_below hS.own (a:=⟨w.heap.size+1,0,none⟩) (by simp;omega) (.int .u16 xo)) (a:=⟨w.heap.size+1,1,none⟩) (by simp;omega) (.slice a7 RL.length c7))
   clear hS hA hres rf
   go_wp2_with fail
   generalize (wr.setCell _ _).setCell _ _=W9 at *
   obtain⟨hd,_⟩:=one_block HB3.out
   have d0:=hd 0
   have d1:=hd 1
   refine bodyPost_ret (v:=.tuple #[.agg #[.int .u16 xo,.slice a7 RL.length c7],.int .i64 0]) ?_ rfl ⟨HBel.out,a7,_,c7,rfl,by rw [HRL.out],by rw [HRL.out];exact own_low4 HOw.out (by omega)⟩
   simp [results,Tryz.results24,go_sem,d0,d1]
set_option maxHeartbeats 4000000 in
theorem refRaw4_err (x:InstT) (b:Int) (ax:Option Addr) (n cx:Nat) (w:World) (hv:ArgsV w ax x.2.2.2) (hok:InstOk x) (hl:x.2.2.2.length=n) (b0:0≤b) (b1:b<4294967296) (hE:rawE x b≠0) :
  Calls Tryz.prog 24 #[instV x ax n cx,.int .u32 b] w fun e w'=>Below w.heap.size w w'∧e=.returned (.tuple #[.agg #[.int .u16 0,.slice none 0 0],.int .i64 (rawE x b)]):=by
 have hF:=fun (wx:World) (hb:Below w.heap.size w wx)=>refFault4_any x b ax n cx wx (hv.below hb) hok hl b0 b1
 generalize rawE x b=E at *
 have hE':(E != 0)=true:=by simp [hE]
 obtain⟨xo,xt,xr,xl⟩:=x
 unfold instV at hF ⊢
 simp only at hF ⊢
 have hbel0:Below w.heap.size w ((w.alloc (.cells #[.int .u16 xo,.int .u32 xt,.int .u32 xr,.slice ax n cx] 38)).alloc (.cells #[.int .u16 0,.slice none 0 0] 54)):=((Below.refl _ w).alloc (Nat.le_refl _) _).alloc (by simp) _
 have kR:((w.alloc (.cells #[.int .u16 xo,.int .u32 xt,.int .u32 xr,.slice ax n cx] 38)).alloc (.cells #[.int .u16 0,.slice none 0 0] 54)).heap[w.heap.size+1]?=some (.cells #[.int .u16 0,.slice none 0 0] 54 (0,0)):=by simpa using alloc_new (w.alloc (.cells #[.int .u16 xo,.int .u32 xt,.int .u32 xr,.slice ax n cx] 38)) #[.int .u16 0,.slice none 0 0] 54
 clear hv hok hl
 go_enter Tryz.func24,Tryz.ntmps24
 go_wp2_with fail
 generalize (w.alloc (.cells #[.int .u16 xo,.int .u32 xt,.int .u32 xr,.slice ax n cx] 38)).alloc (.cells #[.int .u16 0,.slice none 0 0] 54)=W0 at *
 refine (hF _ hbel0).mono ?_
 rintro e w1 ⟨rfl,hb1⟩
 have sR:=(Array.getElem?_eq_some_iff.1 kR).1
 have kR1:=(hb1.block _ sR).trans kR
 have hbel1:=hbel0.trans (hb1.mono (by omega))
 obtain⟨m0,mf⟩:=one_block kR1
 have m1:=m0 0
 have m2:=m0 1
 have HB3:=hide (two_put2 kR1 (.int .u16 0) (.slice none 0 0))
 have HBel:=hide ((hbel1.setCell (p:=⟨w.heap.size+1,0,none⟩) (by simp) (.int .u16 0)).setCell (p:=⟨w.heap.size+1,1,none⟩) (by simp) (.slice none 0 0))
 clear hF hb1 kR hbel0 kR1 hbel1 m0
 go_wp2_with fail
 generalize (w1.setCell _ _).setCell _ _=W9 at *
 obtain⟨hd,_⟩:=one_block HB3.out
 have d0:=hd 0
 have d1:=hd 1
 refine bodyPost_ret (v:=.tuple #[.agg #[.int .u16 0,.slice none 0 0],.int .i64 E]) ?_ rfl ⟨HBel.out,rfl⟩
 simp [results,Tryz.results24,go_sem,d0,d1]
theorem refRaw4_any (x:InstT) (b:Int) (ax:Option Addr) (n cx:Nat) (w:World) (hv:ArgsV w ax x.2.2.2) (hok:InstOk x) (hl:x.2.2.2.length=n) (b0:0≤b) (b1:b<4294967296) :
  Calls Tryz.prog 24 #[instV x ax n cx,.int .u32 b] w fun e w'=>Below w.heap.size w w'∧∃ a m c,e=.returned (.tuple #[.agg #[.int .u16 (rawO x b),.slice a m c],.int .i64 (rawE x b)])∧(rawWs x b).length=m ∧
   w'.ownsRow w.heap.size 22 1 (.slice a m c) m ((rawWs x b).map (Value.int .u32)):=by
 by_cases hE:rawE x b=0
 ·obtain⟨h1,h2,h3⟩:=rawWs_ok hE
  have hf:=faultI_zero h2
  obtain⟨xo,xt,xr,xl⟩:=x
  simp only at h1 h2 h3 hf hv hl
  have e1:rawO (xo,xt,xr,xl) b=xo:=by unfold rawO;rw [if_pos hE]
  rw [e1,h3,hE]
  have hlk:lookF refT xo=((lookF refT xo).1,true):=by rw [← h1]
  have hnul:∀ k,k<n→(nthA xl k).1=3→NoNul (nthA xl k).2.2:=fun k hk h3=>by
   have:=wrongL_zero hf.2.2.1 k (by omega)
   unfold wrongA at this
   split at this
   ·omega
   ·try rw [if_pos h3] at this
    rw [← nulS_false]
    cases e:nulS (nthA xl k).2.2 with
    | false=>rfl
    | true=>rw [e] at this;simp at this
  have hln:(rawL (lookF refT xo).1 (xo,xt,xr,xl)).length≤65535:=by omega
  clear h1 h2 h3 hf e1
  generalize (lookF refT xo).1=f at *
  obtain⟨nm,t,r,fx,rs,mo,pa⟩:=f
  cases t <;> cases r
  ·exact refRaw4_ff xo xt xr xl b ax n cx w hv hok hl b0 b1 nm fx rs mo pa hlk hE hln hnul
  ·exact refRaw4_ft xo xt xr xl b ax n cx w hv hok hl b0 b1 nm fx rs mo pa hlk hE hln hnul
  ·exact refRaw4_tf xo xt xr xl b ax n cx w hv hok hl b0 b1 nm fx rs mo pa hlk hE hln hnul
  ·exact refRaw4_tt xo xt xr xl b ax n cx w hv hok hl b0 b1 nm fx rs mo pa hlk hE hln hnul
 ·have e1:rawO x b=0:=by unfold rawO;rw [if_neg hE]
  have e2:rawWs x b=[]:=by unfold rawWs;rw [if_neg hE]
  rw [e1,e2]
  refine (refRaw4_err x b ax n cx w hv hok hl b0 b1 hE).mono ?_
  rintro e w' ⟨hb,rfl⟩
  exact⟨hb,none,0,0,rfl,rfl,World.ownsRow_nil _ _ _ _⟩
def linP (x:InstT) (b:Int):ByteArray:=if rawE x b=0 then strOfNums (prI x) else ⟨#[]⟩
theorem tks_small {x:InstT} {b:Int} (hx:InstOk x) (hr:rawE x b=0) (k:Nat) (hk:k<(tksI x).length):(nthT (tksI x) k).2.1.size≤1048576:=by
 have:=tksI_size hx hr (nthT (tksI x) k) (by simp [nthT,List.getD,hk])
 omega
set_option maxHeartbeats 2000000 in
theorem refLine8_any (x:InstT) (b:Int) (ax:Option Addr) (n cx:Nat) (w:World) (hv:ArgsV w ax x.2.2.2) (hok:InstOk x) (hl:x.2.2.2.length=n) (b0:0≤b) (b1:b<4294967296) (ht:Pow10 w) :
  Calls Tryz.prog 11 #[instV x ax n cx,.int .u32 b] w fun e w'=>e=.returned (.tuple #[.string (linP x b),.int .i64 (rawE x b)])∧Below w.heap.size w w':=by
 have hR:=fun W (hb:Below w.heap.size w W)=>refRaw4_any x b ax n cx W (hv.below hb) hok hl b0 b1
 have HB0:=hide ((Below.refl w.heap.size w).alloc (Nat.le_refl _) (.cells #[.int .u16 x.1,.int .u32 x.2.1,.int .u32 x.2.2.1,.slice ax n cx] 38))
 have HM:=hide (heap_alloc_new w (.cells #[.int .u16 x.1,.int .u32 x.2.1,.int .u32 x.2.2.1,.slice ax n cx] 38))
 by_cases hz:rawE x b=0
 ·have hT:=fun W (hb:Below w.heap.size w W)=>refTokens8_any x ax n cx W (hv.below hb) hl (by have:=(inst_few hok hz).1;omega) hok (inst_few hok hz).2.2.2 (ht.below hb)
  have hW:=fun W a m c (h:ToksV W a (tksI x)) (hm:(tksI x).length=m)=>ref6WriteB_any a m c (tksI x) W h hm (tksI_in hok hz) (by have:=(inst_few hok hz).2.2.1;omega) (fun k hk=>tks_small hok hz k (by rw [hm];exact hk))
  have eW:wErr (tksI x)=0:=if_pos (tksI_ok hok hz)
  rw [inst_out hok hz,eW] at hW
  have ez:linP x b=strOfNums (prI x):=if_pos hz
  rw [ez,hz]
  rw [hz] at hR
  unfold instV at hR hT ⊢
  generalize strOfNums (prI x)=S at *
  generalize rawO x b=o at *
  generalize tksI x=T at *
  generalize rawWs x b=R at *
  clear hv hok hl ht hz eW ez
  generalize x.1=x1 at *
  generalize x.2.1=x2 at *
  generalize x.2.2.1=x3 at *
  go_enter Tryz.func11,Tryz.ntmps11
  go_wp2_with fail
  generalize w.alloc (.cells #[.int .u16 x1,.int .u32 x2,.int .u32 x3,.slice ax n cx] 38)=W0 at *
  refine (hR _ HB0.out).mono ?_
  rintro e w1 ⟨hb1,a,m,c,rfl,hm,hown⟩
  clear hown hm
  have lm:=(Array.getElem?_eq_some_iff.1 HM.out).1
  have hb2:Below W0.heap.size W0 (w1.alloc (.cells #[.int .u16 o,.slice a m c] 54)):=hb1.alloc hb1.size _
  have kM2:=(hb2.block _ lm).trans HM.out
  obtain⟨hcM,_⟩:=one_block kM2
  have m0:=hcM 0
  have m1:=hcM 1
  have m2:=hcM 2
  have m3:=hcM 3
  have HB2:=hide (HB0.out.trans (hb2.mono HB0.out.size))
  clear hb1 hb2 kM2 hcM hR lm
  go_wp2_with fail
  refine (hT _ HB2.out).mono ?_
  rintro e w3 ⟨a3,m3',c3,rfl,hv3,hm3,hb3⟩
  have HB3:=hide (HB2.out.trans (hb3.mono HB2.out.size))
  have hW':=hW w3 a3 m3' c3 hv3 hm3
  clear hb3 hW hv3 hm3 m0 m1 m2 m3 hT
  go_wp2_with fail
  refine hW'.mono ?_
  rintro e w4 ⟨rfl,hb4⟩
  have HB4:=hide (HB3.out.trans (hb4.mono HB3.out.size))
  clear hb4 hW'
  go_wp2_with fail
  refine bodyPost_ret (v:=.tuple #[.string S,.int .i64 0]) ?_ rfl ⟨rfl,HB4.out⟩
  simp [results,Tryz.results11,go_sem]
 ·have ez:linP x b=⟨#[]⟩:=if_neg hz
  have heb:(rawE x b==0)=false:=by simpa using hz
  rw [ez]
  unfold instV at hR ⊢
  generalize rawE x b=E at *
  generalize rawO x b=o at *
  generalize rawWs x b=R at *
  clear hv hok hl ht hz ez
  generalize x.1=x1 at *
  generalize x.2.1=x2 at *
  generalize x.2.2.1=x3 at *
  go_enter Tryz.func11,Tryz.ntmps11
  go_wp2_with fail
  generalize w.alloc (.cells #[.int .u16 x1,.int .u32 x2,.int .u32 x3,.slice ax n cx] 38)=W0 at *
  refine (hR _ HB0.out).mono ?_
  rintro e w1 ⟨hb1,a,m,c,rfl,hm,hown⟩
  clear hown hm
  have hb2:Below W0.heap.size W0 (w1.alloc (.cells #[.int .u16 o,.slice a m c] 54)):=hb1.alloc hb1.size _
  have HB2:=hide (HB0.out.trans (hb2.mono HB0.out.size))
  clear hb1 hb2 hR HM HB0
  go_wp2_with fail
  refine bodyPost_ret (v:=.tuple #[.string ⟨#[]⟩,.int .i64 E]) ?_ rfl ⟨rfl,HB2.out⟩
  simp [results,Tryz.results11,go_sem]
set_option maxHeartbeats 4000000 in
theorem refShape4_any (gn b:Int) (ax:Option Addr) (n cx:Nat) (l:List InstT) (w:World) (hv:InstsV w ax l) (hok:InstsOk l) (hl:l.length=n) (hn:40 * n≤140737488351232) (b0:0≤b) (b1:b<4294967296) :
  Calls Tryz.prog 19 #[modV gn b ax n cx] w fun e w'=>e=.returned (.agg #[.int .i64 (shapeE b l).1,.int .i64 ((shapeE b l).2:Int)])∧Below w.heap.size w w':=by
 unfold modV
 have hbel:Below w.heap.size w ((w.alloc (.cells #[.int .u32 gn,.int .u32 b,.slice ax n cx] 25)).alloc (.cells #[.int .i64 0,.int .i64 0] 28)):=((Below.refl _ w).alloc (Nat.le_refl _) _).alloc (by simp) _
 have kM:((w.alloc (.cells #[.int .u32 gn,.int .u32 b,.slice ax n cx] 25)).alloc (.cells #[.int .i64 0,.int .i64 0] 28)).heap[w.heap.size]?=some (.cells #[.int .u32 gn,.int .u32 b,.slice ax n cx] 25 (0,0)):=(Below.heap_alloc _ _ _ (by simp)).trans (alloc_new w _ _)
 have kS:((w.alloc (.cells #[.int .u32 gn,.int .u32 b,.slice ax n cx] 25)).alloc (.cells #[.int .i64 0,.int .i64 0] 28)).heap[w.heap.size+1]?=some (.cells #[.int .i64 0,.int .i64 0] 28 (0,0)):=by simpa using alloc_new (w.alloc (.cells #[.int .u32 gn,.int .u32 b,.slice ax n cx] 25)) #[.int .i64 0,.int .i64 0] 28
 by_cases hb:b=0∨65536<b
 ·have e1:shapeE b l=(24,0):=by unfold shapeE;rw [if_pos hb]
  rw [e1]
  clear hv hok hl e1 kM kS
  by_cases hb0:b=0
  ·subst hb0
   go_enter Tryz.func19,Tryz.ntmps19
   go_wp2
   refine bodyPost_ret (v:=.agg #[.int .i64 24,.int .i64 0]) ?_ rfl ⟨rfl,?_⟩
   ·simp [results,Tryz.results19,go_sem]
   ·exact ((Below.refl _ w).alloc (Nat.le_refl _) _).alloc (by simp) _
  ·have hb0':(b==0)=false:=by simpa using hb0
   have hb1':decide ((65536:Int)<b)=true:=decide_eq_true (by omega)
   clear hb hb0
   go_enter Tryz.func19,Tryz.ntmps19
   go_wp2
   refine bodyPost_ret (v:=.agg #[.int .i64 24,.int .i64 0]) ?_ rfl ⟨rfl,?_⟩
   ·simp [results,Tryz.results19,go_sem]
   ·exact ((Below.refl _ w).alloc (Nat.le_refl _) _).alloc (by simp) _
 ·have hb0':(b==0)=false:=by simp;omega
  have hb1':decide ((65536:Int)<b)=false:=decide_eq_false (by omega)
  obtain⟨R,hR⟩:∃ R,R=shapeE b l:=⟨_,rfl⟩
  rw [← hR]
  have hR0:R=shapeF b 0 (sizeTo (rawsL b l) 0) (l.drop 0):=by rw [hR];unfold shapeE;rw [if_neg hb];rfl
  have HR0:=hide hR0
  have HST:Hid (∀ k,k<n→shapeF b k (sizeTo (rawsL b l) k) (l.drop k)=if rawE (nthI l k) b≠0 then (rawE (nthI l k) b,k) else if 1048576<sizeTo (rawsL b l) (k+1) then (4,k) else shapeF b (k+1) (sizeTo (rawsL b l) (k+1)) (l.drop (k+1))):=fun k hk=>shape_step b l k (by omega)
  have HSZ:Hid (∀ k,k<n→sizeTo (rawsL b l) (k+1)=sizeTo (rawsL b l) k+1+(rawWs (nthI l k) b).length):=fun k hk=>by
   rw [sizeTo_succ _ _ (by rw [rawsL_len];omega),nthR_raws b l k (by omega)]
  have HEN:Hid (∀ k,n≤k→shapeF b k (sizeTo (rawsL b l) k) (l.drop k)=(0,0)):=fun k hk=>shape_end b l k _ (by omega)
  have HV:=hide (hv.below hbel)
  have HBEL:=hide hbel
  have HM:=hide kM
  have HS:=hide kS
  have HL:=hide hl
  have HOK:=hide hok
  have HN:Hid (40 * n≤140737488351232):=hn
  have HBB:Hid (0≤b∧b<4294967296):=⟨b0,b1⟩
  clear hv hok hl hn hb hR hR0 hbel kM kS b0 b1
  go_enter Tryz.func19,Tryz.ntmps19
  go_wp2
  generalize hW:(w.alloc (.cells #[.int .u32 gn,.int .u32 b,.slice ax n cx] 25)).alloc (.cells #[.int .i64 0,.int .i64 0] 28)=W at *
  have sS:=(Array.getElem?_eq_some_iff.1 HS.out).1
  clear hW
  go_loopw [3,4] (fun u i wr=>∃ k:Nat,k≤n∧i=.int .i64 k∧u=.int .i64 (sizeTo (rawsL b l) k:Int)∧Below W.heap.size W wr∧Hid (sizeTo (rawsL b l) k≤1048576)∧Hid (R=shapeF b k (sizeTo (rawsL b l) k) (l.drop k))) (fun _ i _=>n - (intOf i).toNat)
  case atStart=>exact⟨0,Nat.zero_le _,rfl,rfl,Below.refl _ _,by show (5:Nat)≤_;omega,HR0⟩
  case round =>
   obtain⟨k,hk,rfl,rfl,hbr,HLE,HRK⟩:=hrel
   clear HR0
   have kMr:=(hbr.block _ (by omega)).trans HM.out
   have kSr:=(hbr.block _ sS).trans HS.out
   have hvr:=HV.out.below hbr
   have sr:w.heap.size+1<wr.heap.size:=Nat.lt_of_lt_of_le sS hbr.size
   have m2:=(one_block kMr).1 2
   have hfr:=HBEL.out.trans (hbr.mono HBEL.out.size)
   have hkb:(k:Int)<140737488351232:=by have:=HN.out;omega
   by_cases hlt:k<n
   ·have hkl:k<l.length:=by rw [HL.out];exact hlt
    obtain⟨g1,o1,aj,cj,nj,rfl,hg1,p1,p2,p3,p4,p5,p6,p7⟩:=hvr k hkl
    have hki:(k:Int)<(n:Int):=by omega
    have hk0:(0:Int)≤(k:Int):=by omega
    have hS1:=HST.out k hlt
    have hS2:=HSZ.out k hlt
    rw [← HRK.out] at hS1
    have HS1:=hide hS1
    have HS2:=hide hS2
    have a1:=fun s:InC (Below wr.heap.size wr)=>s.cell (p:=⟨w.heap.size,1,none⟩) (by show w.heap.size<_;omega) ((one_block kMr).1 1)
    have a2:=fun s:InC (Below wr.heap.size wr)=>s.cell (p:=⟨w.heap.size,2,none⟩) (by show w.heap.size<_;omega) ((one_block kMr).1 2)
    have q1:=fun s:InC (Below wr.heap.size wr)=>s.cell (p:=⟨g1,o1+k * 4,none⟩) hg1 p1
    have q2:=fun s:InC (Below wr.heap.size wr)=>s.cell (p:=⟨g1,o1+k * 4+1,none⟩) hg1 p2
    have q3:=fun s:InC (Below wr.heap.size wr)=>s.cell (p:=⟨g1,o1+k * 4+2,none⟩) hg1 p3
    have q4:=fun s:InC (Below wr.heap.size wr)=>s.cell (p:=⟨g1,o1+k * 4+3,none⟩) hg1 p4
    have hne:Nonempty (InC (Below wr.heap.size wr)):=⟨⟨wr,Below.refl _ _⟩⟩
    have hbl:=below_drew wr
    have hF:=fun s:InC (Below wr.heap.size wr)=>Calls.inC s (refFault4_any (nthI l k) b aj nj cj s.w (p6.below s.ok) (HOK.out k hkl) p5 HBB.out.1 HBB.out.2)
    have HIK:=hide (HOK.out k hkl)
    have HP:=hide (show wr.cell? ⟨g1,o1+k * 4,none⟩=some (.int .u16 (nthI l k).1)∧wr.cell? ⟨g1,o1+k * 4+1,none⟩=some (.int .u32 (nthI l k).2.1)∧wr.cell? ⟨g1,o1+k * 4+2,none⟩=some (.int .u32 (nthI l k).2.2.1)∧wr.cell? ⟨g1,o1+k * 4+3,none⟩=some (.slice aj nj cj)∧(nthI l k).2.2.2.length=nj∧ArgsV wr aj (nthI l k).2.2.2 from ⟨p1,p2,p3,p4,p5,p6⟩)
    have HMr:=hide kMr
    have HSr:=hide kSr
    clear hS1 hS2 p1 p2 p3 p4 p5 p6 p7 hvr kMr kSr HST HSZ HEN HV HM HS HOK HRK
    generalize hz:nthI l k=z at *
    clear hz
    have hRL:rawE z b=0→(lookF refT z.1).2=true∧rawWs z b=rawL (lookF refT z.1).1 z∧(rawL (lookF refT z.1).1 z).length≤65535:=fun h=>by
     obtain⟨h1,h2,h3⟩:=rawWs_ok h
     have:=faultI_zero h2
     exact⟨h1,h3,by omega⟩
    have HRL:=hide hRL
    clear hRL
    generalize hE:rawE z b=E at *
    clear hE
    obtain⟨zo,zt,zr,zl⟩:=z
    unfold instV at hF
    simp only at *
    go_wp2_with fail
    refine wp_region_class (C:=Below wr.heap.size wr) (by kernel_rfl) (by kernel_rfl) hbl ?_
    repeat (go_big_quiet_step ((go_at_call 32;exact hF _)))
    refine wpQuiet_nil ?_
    rintro _ ⟨s,rfl⟩
    have hbs:=hbr.trans (s.ok.mono hbr.size)
    have hfs:=hfr.trans (s.ok.mono hfr.size)
    have kM3:=(s.ok.block _ (by omega)).trans HMr.out
    have kS3:=(s.ok.block _ sr).trans HSr.out
    have s3:w.heap.size+1<s.w.heap.size:=Nat.lt_of_lt_of_le sr s.ok.size
    have r1:=q1 s
    have r2:=q2 s
    have r3:=q3 s
    have r4:=q4 s
    have r6:=HP.out.2.2.2.2.2.below s.ok
    have sg:g1<s.w.heap.size:=Nat.lt_of_lt_of_le hg1 s.ok.size
    clear hne hF a1 a2 q1 q2 q3 q4 hbr hfr hbl HMr HSr
    generalize s.w=W3 at *
    have m2:=(one_block kM3).1 2
    by_cases hE0:E=0
    ·subst hE0
     obtain⟨t1,t2,t3⟩:=HRL.out (by trivial)
     have hOf:=fun wx=>refOf_any zo wx
     have eV:ofV zo=formV zo (lookF refT zo).1:=by unfold ofV;rw [if_pos t1]
     rw [eV,t1] at hOf
     have H2:=HS2.out
     rw [t2] at H2
     have hRm:=fun (wx:World) (f:Frm) (h:(lookF refT zo).1=f) (hvx:ArgsV wx aj zl)=>refRoom4_any (zo,zt,zr,zl) zo f aj nj cj wx hvx HIK.out HP.out.2.2.2.2.1 (by
      have:(wordsL zl).length≤(rawL (lookF refT zo).1 (zo,zt,zr,zl)).length:=by unfold rawL;simp
      simp only;omega)
     generalize hf:(lookF refT zo).1=f at *
     have hRm':=fun wx=>hRm wx f rfl
     clear hRm hf eV t1 t2
     generalize hLn:(rawL f (zo,zt,zr,zl)).length=ln at *
     clear hLn
     have HT3:=hide t3
     have HH2:=hide H2
     have HRM:=hide hRm'
     clear t3 H2 hRm' HS2
     obtain⟨nm,t,r,fx,rs,mo,pa⟩:=f
     unfold formV at hOf HRM
     unfold instV at HRM
     simp only at hOf HRM
     go_wp2_with fail
     refine (hOf _).mono ?_
     rintro e w4 ⟨rfl,hb4⟩
     have hba:Below w4.heap.size w4 (w4.alloc (.cells #[.int .u16 zo,.string nm,.bool t,.bool r,.string fx,.string rs,.int .i64 mo,.int .u8 pa] 66)):=(Below.refl _ _).alloc (Nat.le_refl _) _
     have hb4a:=hb4.trans (hba.mono hb4.size)
     have kM4:=(hb4a.block _ (by omega)).trans kM3
     have kS4:=(hb4a.block _ s3).trans kS3
     have kF4:=alloc_new w4 #[.int .u16 zo,.string nm,.bool t,.bool r,.string fx,.string rs,.int .i64 mo,.int .u8 pa] 66
     have u1:=(hb4a.cell (p:=⟨g1,o1+k * 4,none⟩) sg).trans r1
     have u2:=(hb4a.cell (p:=⟨g1,o1+k * 4+1,none⟩) sg).trans r2
     have u3:=(hb4a.cell (p:=⟨g1,o1+k * 4+2,none⟩) sg).trans r3
     have u4:=(hb4a.cell (p:=⟨g1,o1+k * 4+3,none⟩) sg).trans r4
     have u6:=r6.below hb4a
     have hbs4:=hbs.trans (hb4a.mono hbs.size)
     have hfs4:=hfs.trans (hb4a.mono hfs.size)
     have sg4:g1<(w4.alloc (.cells #[.int .u16 zo,.string nm,.bool t,.bool r,.string fx,.string rs,.int .i64 mo,.int .u8 pa] 66)).heap.size:=Nat.lt_of_lt_of_le sg hb4a.size
     have sF4:w4.heap.size<(w4.alloc (.cells #[.int .u16 zo,.string nm,.bool t,.bool r,.string fx,.string rs,.int .i64 mo,.int .u8 pa] 66)).heap.size:=by simp
     have s4:w.heap.size+1<(w4.alloc (.cells #[.int .u16 zo,.string nm,.bool t,.bool r,.string fx,.string rs,.int .i64 mo,.int .u8 pa] 66)).heap.size:=Nat.lt_of_lt_of_le s3 hb4a.size
     clear hOf hb4 hba hb4a r1 r2 r3 r4 r6 kM3 kS3 m2 hbs hfs
     go_wp2_with fail
     generalize hW4:w4.alloc (.cells #[.int .u16 zo,.string nm,.bool t,.bool r,.string fx,.string rs,.int .i64 mo,.int .u8 pa] 66)=W4 at *
     clear hW4
     have a2:=fun s:InC (Below W4.heap.size W4)=>s.cell (p:=⟨w.heap.size,2,none⟩) (by show w.heap.size<_;omega) ((one_block kM4).1 2)
     have q1:=fun s:InC (Below W4.heap.size W4)=>s.cell (p:=⟨g1,o1+k * 4,none⟩) sg4 u1
     have q2:=fun s:InC (Below W4.heap.size W4)=>s.cell (p:=⟨g1,o1+k * 4+1,none⟩) sg4 u2
     have q3:=fun s:InC (Below W4.heap.size W4)=>s.cell (p:=⟨g1,o1+k * 4+2,none⟩) sg4 u3
     have q4:=fun s:InC (Below W4.heap.size W4)=>s.cell (p:=⟨g1,o1+k * 4+3,none⟩) sg4 u4
     obtain⟨d0,d1,d2,d3,d4,d5,d6,d7,df⟩:=frm_cells (n:=zo) (f:=(nm,t,r,fx,rs,mo,pa)) kF4
     simp only at d0 d1 d2 d3 d4 d5 d6 d7
     have v0:=fun s:InC (Below W4.heap.size W4)=>s.cell (p:=⟨w4.heap.size,0,none⟩) sF4 d0
     have v1:=fun s:InC (Below W4.heap.size W4)=>s.cell (p:=⟨w4.heap.size,1,none⟩) sF4 d1
     have v2:=fun s:InC (Below W4.heap.size W4)=>s.cell (p:=⟨w4.heap.size,2,none⟩) sF4 d2
     have v3:=fun s:InC (Below W4.heap.size W4)=>s.cell (p:=⟨w4.heap.size,3,none⟩) sF4 d3
     have v4:=fun s:InC (Below W4.heap.size W4)=>s.cell (p:=⟨w4.heap.size,4,none⟩) sF4 d4
     have v5:=fun s:InC (Below W4.heap.size W4)=>s.cell (p:=⟨w4.heap.size,5,none⟩) sF4 d5
     have v6:=fun s:InC (Below W4.heap.size W4)=>s.cell (p:=⟨w4.heap.size,6,none⟩) sF4 d6
     have v7:=fun s:InC (Below W4.heap.size W4)=>s.cell (p:=⟨w4.heap.size,7,none⟩) sF4 d7
     have hne:Nonempty (InC (Below W4.heap.size W4)):=⟨⟨W4,Below.refl _ _⟩⟩
     have hbl:=below_drew W4
     have hM:=fun s:InC (Below W4.heap.size W4)=>Calls.inC s (HRM.out s.w (u6.below s.ok))
     have hsz:=HLE.out
     generalize hszk:sizeTo (rawsL b l) k=szk at *
     have hln:=HT3.out
     have hwr:IntKind.i64.wrap ((szk:Int)+(1+(ln:Int)))=(szk:Int)+(1+(ln:Int)):=by rw [IntKind.wrap_i64];omega
     have hwr2:IntKind.i64.wrap ((szk:Int)+((1+ln:Nat):Int))=(szk:Int)+(1+(ln:Int)):=by rw [IntKind.wrap_i64];omega
     have HSK:=hide hsz
     clear d0 d1 d2 d3 d4 d5 d6 d7 df u1 u2 u3 u4 u6 kF4 hszk hln hsz
     refine wp_region_class (C:=Below W4.heap.size W4) (by kernel_rfl) (by kernel_rfl) hbl ?_
     repeat (go_big_quiet_step ((go_at_call 34;exact hM _)))
     refine wpQuiet_nil ?_
     rintro _ ⟨s,rfl⟩
     have hbs5:=hbs4.trans (s.ok.mono hbs4.size)
     have hfs5:=hfs4.trans (s.ok.mono hfs4.size)
     have kS5:=(s.ok.block _ s4).trans kS4
     have s5:w.heap.size+1<s.w.heap.size:=Nat.lt_of_lt_of_le s4 s.ok.size
     clear hne hM a2 q1 q2 q3 q4 v0 v1 v2 v3 v4 v5 v6 v7 hbs4 hfs4 hbl kM4 kS4
     generalize s.w=W5 at *
     by_cases hgt:1048576<szk+1+ln
     ·have e9:=HS1.out
      rw [if_neg (by simp),HH2.out,if_pos hgt] at e9
      subst e9
      have hd:decide ((1048576:Int)<(szk:Int)+(1+(ln:Int)))=true:=decide_eq_true (by omega)
      obtain⟨mm,mf⟩:=one_block kS5
      have x0:=mm 0
      have x1:=mm 1
      have HB3:=hide (two_put2 kS5 (.int .i64 4) (.int .i64 (k:Int)))
      have HBel:=hide ((hfs5.setCell (p:=⟨w.heap.size+1,0,none⟩) (by simp) (.int .i64 4)).setCell (p:=⟨w.heap.size+1,1,none⟩) (by simp) (.int .i64 (k:Int)))
      clear kS5 mm hfs5 hgt
      go_wp2_with fail
      generalize (W5.setCell _ _).setCell _ _=W9 at *
      obtain⟨hd,_⟩:=one_block HB3.out
      have d0:=hd 0
      have d1:=hd 1
      refine bodyPost_ret (v:=.agg #[.int .i64 4,.int .i64 (k:Int)]) ?_ rfl ⟨rfl,HBel.out⟩
      simp [results,Tryz.results19,go_sem,d0,d1]
     ·have e9:=HS1.out
      rw [if_neg (by simp),HH2.out,if_neg hgt] at e9
      have HE9:=hide e9
      have hd:decide ((1048576:Int)<(szk:Int)+(1+(ln:Int)))=false:=decide_eq_false (by omega)
      have HGT:Hid (szk+1+ln≤1048576):=by show _≤_;omega
      clear e9 hgt
      go_wp2_with fail
      go_roundw
      case rel=>exact⟨k+1,by omega,by go_num,by rw [HH2.out];refine congrArg (Value.int .i64) ?_;omega,hbs5,by show _≤_;rw [HH2.out];exact HGT.out,by show _=_;rw [HH2.out];exact HE9.out⟩
      case measure=>simp [intOf];omega
    ·have hE':(E != 0)=true:=by simp [hE0]
     have e9:=HS1.out
     rw [if_pos hE0] at e9
     subst e9
     obtain⟨mm,mf⟩:=one_block kS3
     have x0:=mm 0
     have x1:=mm 1
     have HB3:=hide (two_put2 kS3 (.int .i64 E) (.int .i64 (k:Int)))
     have HBel:=hide ((hfs.setCell (p:=⟨w.heap.size+1,0,none⟩) (by simp) (.int .i64 E)).setCell (p:=⟨w.heap.size+1,1,none⟩) (by simp) (.int .i64 (k:Int)))
     clear kS3 mm hfs
     go_wp2_with fail
     generalize (W3.setCell _ _).setCell _ _=W9 at *
     obtain⟨hd,_⟩:=one_block HB3.out
     have d0:=hd 0
     have d1:=hd 1
     refine bodyPost_ret (v:=.agg #[.int .i64 E,.int .i64 (k:Int)]) ?_ rfl ⟨rfl,HBel.out⟩
     simp [results,Tryz.results19,go_sem,d0,d1]
   ·obtain rfl:k=n:=by omega
    have e9:=HRK.out
    rw [HEN.out k (Nat.le_refl _)] at e9
    subst e9
    obtain⟨mm,mf⟩:=one_block kSr
    have x0:=mm 0
    have x1:=mm 1
    have HB3:=hide (two_put2 kSr (.int .i64 0) (.int .i64 0))
    have HBel:=hide ((hfr.setCell (p:=⟨w.heap.size+1,0,none⟩) (by simp) (.int .i64 0)).setCell (p:=⟨w.heap.size+1,1,none⟩) (by simp) (.int .i64 0))
    clear kSr mm hfr hvr
    go_wp2_with fail
    generalize (wr.setCell _ _).setCell _ _=W9 at *
    obtain⟨hd,_⟩:=one_block HB3.out
    have d0:=hd 0
    have d1:=hd 1
    refine bodyPost_ret (v:=.agg #[.int .i64 0,.int .i64 0]) ?_ rfl ⟨rfl,HBel.out⟩
    simp [results,Tryz.results19,go_sem,d0,d1]

theorem rowB_convert {B:Nat} {v:Value} {zs:List Int} {wx:World} (hr:RowB B v zs wx):(convert 44 9 v).run Tryz.prog wx=.ok (.string (strOfNums zs)) wx:=by
 unfold RowB at hr
 rcases hr.2 with ⟨hv,h0⟩ | ⟨g,cap,cur,hv,_⟩
 ·have:zs=[]:=List.length_eq_zero_iff.1 h0
  subst this
  subst hv
  exact run_convert_bytes_nil wx _ _ Tryz.underlying44 Tryz.underlying5 _ _ _ Tryz.underlying9
 ·subst hv
  refine run_convert_bytes_arg wx _ _ Tryz.underlying44 Tryz.underlying5 g 0 _ cap zs rfl (fun i hi=>?_) _ Tryz.underlying9
  obtain⟨b',off',e,_,hcell⟩:=View.ofRow hr rfl i hi
  simp at e
  obtain⟨rfl,rfl⟩:=e
  exact hcell
end Go.Proofs.YtonhnflilfjkbaaGreatDoor
