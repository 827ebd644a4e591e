/-
  Texts in one: PrintTokenstf, PrintTokensft, PrintTokensff, PrintTokens, LexKinds.
-/
import Derived.Test.YtonhnflilfjkbaaGreatDoorB16
namespace Go.Proofs.YtonhnflilfjkbaaGreatDoor
open Go.RowKit
set_option linter.unusedSimpArgs false
set_option maxRecDepth 10000
set_option linter.unusedVariables false
set_option maxHeartbeats 8000000 in
theorem printTokens_tf (x:InstT) (ax:Option Addr) (n cx:Nat) (w:World) (hv:ArgsV w ax x.2.2.2) (hl:x.2.2.2.length=n) (hn:n≤1000000000) (hx:InstOk x) (hk:(lookF refT x.1).2=true) (ht:Pow10 w) (hrs:(lookF refT x.1).1.2.2.1=true) (hty:(lookF refT x.1).1.2.1=false) :
  Calls Tryz.prog 29 #[.agg #[.int .u16 x.1,.int .u32 x.2.1,.int .u32 x.2.2.1,.slice ax n cx]] w fun e w'=>∃ a m c,e=.returned (.slice a m c)∧ToksV w' a (tksI x)∧(tksI x).length=m∧Below w.heap.size w w':=by
 have hOf:=fun wx=>of_any x.1 wx
 unfold ofV formV at hOf
 rw [hk,if_pos rfl] at hOf
 have HOf:=hide hOf
 have HX:=hide hx
 have HV:=hide hv
 have HT:=hide ht
 have HL:=hide hl
 have HTK:Hid (tksI x=preTk (lookF refT x.1).1 x++argTks (lookF refT x.1).1 x.2.2.2):=rfl
 generalize tksI x=RES at *
 clear hOf hx hv ht hk hl
 generalize hfe:(lookF refT x.1).1=f at *
 obtain⟨nm,ty,rs,fx,rp,mo,pa⟩:=f
 simp only at hrs hty HOf
 subst hrs hty
 obtain⟨xo,xt,xr,l⟩:=x
 simp only at HOf HX HV HL HTK hfe ⊢
 have HFE:=hide hfe
 clear hfe
 have hba:Below w.heap.size w (w.alloc (.cells #[.int .u16 xo,.int .u32 xt,.int .u32 xr,.slice ax n cx] 38)):=(Below.refl _ w).alloc (Nat.le_refl _) _
 have HM0:=hide (heap_alloc_new w (.cells #[.int .u16 xo,.int .u32 xt,.int .u32 xr,.slice ax n cx] 38))
 have HB0:=hide hba
 have hof:=HOf.out (w.alloc (.cells #[.int .u16 xo,.int .u32 xt,.int .u32 xr,.slice ax n cx] 38))
 clear hba HOf
 go_enter Tryz.func29,Tryz.ntmps29
 go_wp2_with fail
 generalize w.alloc (.cells #[.int .u16 xo,.int .u32 xt,.int .u32 xr,.slice ax n cx] 38)=W0 at *
 refine hof.mono ?_
 rintro e w1 ⟨rfl,hb1⟩
 have hba1:Below w1.heap.size w1 ((w1.alloc (.cells #[.int .u16 xo,.string nm,.bool false,.bool true,.string fx,.string rp,.int .i64 mo,.int .u8 pa] 66)).alloc (.cells #[.slice none 0 0] 58)):=((Below.refl _ w1).alloc (Nat.le_refl _) _).alloc (by simp) _
 have hb01:=hb1.trans (hba1.mono hb1.size)
 have hlt0:w.heap.size<w1.heap.size:=by have:=(Array.getElem?_eq_some_iff.1 HM0.out).1;have:=hb1.size;omega
 have HIT:Hid (ItB w ((w1.alloc (.cells #[.int .u16 xo,.string nm,.bool false,.bool true,.string fx,.string rp,.int .i64 mo,.int .u8 pa] 66)).alloc (.cells #[.slice none 0 0] 58)) xo xt xr ax n cx w1.heap.size (nm,false,true,fx,rp,mo,pa) (w1.heap.size+1) (w1.heap.size+2) (.slice none 0 0) []):=by
  refine⟨(hb01.block _ (Array.getElem?_eq_some_iff.1 HM0.out).1).trans HM0.out,?_,⟨?_,by omega,by simp,⟨rfl,.inl ⟨rfl,rfl⟩⟩⟩,HB0.out.trans (hb01.mono HB0.out.size),by omega,by omega⟩
  ·rw [Below.heap_alloc _ _ _ (by simp)];exact heap_alloc_new _ _
  ·have:=heap_alloc_new (w1.alloc (.cells #[.int .u16 xo,.string nm,.bool false,.bool true,.string fx,.string rp,.int .i64 mo,.int .u8 pa] 66)) (.cells #[.slice none 0 0] 58);simpa using this
 clear hof hb1 hba1 hb01 HM0 HB0
 have i1:=(one_block HIT.out.ibox).1 1
 have i2:=(one_block HIT.out.ibox).1 2
 have i3:=(one_block HIT.out.ibox).1 3
 have i0:=(one_block HIT.out.ibox).1 0
 go_wp2_with fail
 generalize (w1.alloc (.cells #[.int .u16 xo,.string nm,.bool false,.bool true,.string fx,.string rp,.int .i64 mo,.int .u8 pa] 66)).alloc (.cells #[.slice none 0 0] 58)=W1 at *
 clear i0 i1 i2 i3
 refine (printId_any xr W1 HX.out.2.2.2.2.1 HX.out.2.2.2.2.2.1 (HT.out.below HIT.out.bel)).mono ?_
 rintro e w2 ⟨rfl,hb⟩
 have HI2:=hide (HIT.out.below hb)
 clear hb HIT
 go_wp2_with fail
 refine (printEqual_any w2).mono ?_
 rintro e w3 ⟨rfl,hb⟩
 have HI3:=hide (HI2.out.below hb)
 clear hb HI2
 unfold tokV
 go_wp2_with fail
 have had:=addTok_any (w1.heap.size+1) (w1.heap.size+2) _ _ [(2,dgS xr,0),(5,eqS,0)] ⟨w3.heap.size,0,none⟩ 2 2 (w3.alloc (.cells ([(2,dgS xr,0),(5,eqS,0)].flatMap tokC).toArray 81)) (HI3.out.below ((Below.refl _ w3).alloc (Nat.le_refl _) _)).lis rfl (by decide) (newToks_cells w3 [(2,dgS xr,0),(5,eqS,0)] _) (by simp)
 have HA:=hide (HI3.out.below ((Below.refl _ w3).alloc (Nat.le_refl _) (.cells ([(2,dgS xr,0),(5,eqS,0)].flatMap tokC).toArray 81)))
 refine had.mono ?_
 rintro e w4 ⟨rfl,⟨v4,hl4⟩,hk4,_⟩
 have HI4:=hide (HA.out.keep hk4 hl4)
 clear had HA hl4 hk4 HI3
 have i1:=(one_block HI4.out.ibox).1 1
 have i2:=(one_block HI4.out.ibox).1 2
 have i3:=(one_block HI4.out.ibox).1 3
 have i0:=(one_block HI4.out.ibox).1 0
 obtain⟨q0,f1,f2,f3,q4,q5,q6,q7⟩:=frm_cells HI4.out.fbox
 clear q0 q4 q5 q6 q7
 go_wp2_with fail
 clear i0 i1 i2 i3 f1 f2 f3
 refine (printWord_any nm w4).mono ?_
 rintro e w5 ⟨rfl,hb⟩
 have HI5:=hide (HI4.out.below hb)
 clear hb HI4
 unfold tokV
 go_wp2_with fail
 have had:=addTok_any (w1.heap.size+1) (w1.heap.size+2) _ _ [(1,nm,0)] ⟨w5.heap.size,0,none⟩ 1 1 (w5.alloc (.cells ([(1,nm,0)].flatMap tokC).toArray 81)) (HI5.out.below ((Below.refl _ w5).alloc (Nat.le_refl _) _)).lis rfl (by decide) (newToks_cells w5 [(1,nm,0)] _) (by simp)
 have HA:=hide (HI5.out.below ((Below.refl _ w5).alloc (Nat.le_refl _) (.cells ([(1,nm,0)].flatMap tokC).toArray 81)))
 refine had.mono ?_
 rintro e w6 ⟨rfl,⟨v6,hl6⟩,hk6,_⟩
 have HI6:=hide (HA.out.keep hk6 hl6)
 clear had HA hl6 hk6 HI5
 have i1:=(one_block HI6.out.ibox).1 1
 have i2:=(one_block HI6.out.ibox).1 2
 have i3:=(one_block HI6.out.ibox).1 3
 have i0:=(one_block HI6.out.ibox).1 0
 obtain⟨q0,f1,f2,f3,q4,q5,q6,q7⟩:=frm_cells HI6.out.fbox
 clear q0 q4 q5 q6 q7
 go_wp2_with fail
 clear i0 i1 i2 i3 f1 f2 f3
 go_loopw [42] (fun i wr=>∃ (k:Nat) (v:Value),k≤n∧i=.int .i64 k∧ItB w wr xo xt xr ax n cx w1.heap.size (nm,false,true,fx,rp,mo,pa) (w1.heap.size+1) (w1.heap.size+2) v (preTk (nm,false,true,fx,rp,mo,pa) (xo,xt,xr,l)++(argTks (nm,false,true,fx,rp,mo,pa) l).take k)) (fun i _=>n - (intOf i).toNat)
 case atStart=>exact⟨0,_,Nat.zero_le _,rfl,by have:=HI6.out;simpa [preTk] using this⟩
 case round =>
  obtain⟨k,v,hk,rfl,hR⟩:=hrel
  clear HI6
  have HR:=hide hR
  have i0:=(one_block hR.ibox).1 0
  by_cases hlt:k<n
  ·have HLT:=hide hlt
   have hki:(k:Int)<(n:Int):=by omega
   have hk0:(0:Int)≤(k:Int):=by omega
   obtain⟨b,o,rfl,hbs,a0,a1,a2⟩:=(HV.out.below hR.bel) k (by rw [HL.out];exact hlt)
   have HFEW:Hid ((preTk (nm,false,true,fx,rp,mo,pa) (xo,xt,xr,l)++(argTks (nm,false,true,fx,rp,mo,pa) l).take k).length+1≤1099511627776):=by
    show _≤_
    rw [List.length_append,List.length_take,argTks_len]
    have:(preTk (nm,false,true,fx,rp,mo,pa) (xo,xt,xr,l)).length≤4:=by simp [preTk]
    have:=HL.out
    omega
   have hle:=hide fun wx=>grammarLetter_any xo ((k:Nat):Int) wx (by omega)
   rw [HFE.out] at hle
   have hyo:ArgOk (nthA l k):=HX.out.2.2.2.2.2.2.1 k (by have:=HL.out;simp only;omega)
   have har:=hide fun c wx (hp:Pow10 wx)=>printArgument_any c (nthA l k) wx hyo hp
   unfold argV at har
   have HTN:=hide (argTks_snoc (nm,false,true,fx,rp,mo,pa) l k (by rw [HL.out];exact hlt))
   generalize letterI (nm,false,true,fx,rp,mo,pa) (k:Int)=cc at *
   have hba:Below wr.heap.size wr (wr.alloc (.cells #[.int .u8 (nthA l k).1,.int .u32 (nthA l k).2.1,.string (nthA l k).2.2] 61)):=(Below.refl _ wr).alloc (Nat.le_refl _) _
   have HRA:=hide (hR.below hba)
   have HAB:=hide (heap_alloc_new wr (.cells #[.int .u8 (nthA l k).1,.int .u32 (nthA l k).2.1,.string (nthA l k).2.2] 61))
   generalize nthA l k=y at *
   obtain⟨y0,y1,y2⟩:=y
   simp only at a0 a1 a2 har HRA HAB
   obtain⟨t,hte⟩:∃ t,t=argTk cc (y0,y1,y2):=⟨_,rfl⟩
   rw [← hte] at HTN
   have har2:=hide (har.out cc)
   rw [← hte] at har2
   obtain⟨t0,t1,t2⟩:=t
   unfold tokV at har2
   simp only at har2
   clear hR hbs hba hyo har hte
   go_wp2_with fail
   generalize wr.alloc (.cells #[.int .u8 y0,.int .u32 y1,.string y2] 61)=WA at *
   generalize hAA:wr.heap.size=AA at *
   clear i0 a0 a1 a2
   have LC:Hid (∀ w',Below WA.heap.size WA w'→w'.cell? ⟨w.heap.size,0,none⟩=some (.int .u16 xo)∧w'.cell? ⟨AA,0,none⟩=some (.int .u8 y0)∧w'.cell? ⟨AA,1,none⟩=some (.int .u32 y1)∧w'.cell? ⟨AA,2,none⟩=some (.string y2)):=fun w' hC=>by
    have q:=(hC.block _ (Array.getElem?_eq_some_iff.1 HAB.out).1).trans HAB.out
    exact⟨(one_block (HRA.out.below hC).ibox).1 0,(one_block q).1 0,(one_block q).1 1,(one_block q).1 2⟩
   have hC0:Below WA.heap.size WA WA.drew:=below_drew WA
   have hmix:Tryz.prog.follows .mixedOrders=true:=by kernel_rfl
   refine (wpIn_wide (n:=0)).1 ?_
   refine wpIn_normal (wpIn_region_any hmix (wpAnyE_sound (C:=fun w'=>w'.cell? ⟨w.heap.size,0,none⟩=some (.int .u16 xo)∧w'.cell? ⟨AA,0,none⟩=some (.int .u8 y0)∧w'.cell? ⟨AA,1,none⟩=some (.int .u32 y1)∧w'.cell? ⟨AA,2,none⟩=some (.string y2)) (E:=fun i=>false) _ _ _ _ ?_))
   change wpAnyE _ _ _ _ _ _ _ _ _ _ _ (World.drew _)
   refine wpAnyE_takeD (i:=0) (some 47) (v:=.func (.func 53) #[] #[.pointer (some ⟨w1.heap.size+1,0,none⟩)]) (fun _=>trivial) (by kernel_rfl) rfl rfl (by kernel_rfl) (by kernel_rfl) (by kernel_rfl) (by kernel_rfl) (fun _ _ _ h=>by cases h.1) (LC.out _ hC0) (Or.inl ⟨by rfl,fun w' hC=>by obtain⟨e0,e1,e2,e3⟩:=hC;go_simp⟩) ?_
   simp only [Act.put,ap1,ap2,ap3]
   refine wpAnyE_takeD (i:=1) (some 48) (v:=.pointer (some ⟨w.heap.size,0,none⟩)) (fun _=>trivial) (by kernel_rfl) rfl rfl (by kernel_rfl) (by kernel_rfl) (by kernel_rfl) (by kernel_rfl) (fun _ _ _ h=>by cases h.1) (LC.out _ hC0) (Or.inl ⟨by rfl,fun w' hC=>by obtain⟨e0,e1,e2,e3⟩:=hC;go_simp⟩) ?_
   simp only [Act.put,ap1,ap2,ap3]
   refine wpAnyE_takeD (i:=2) (some 49) (v:=.int .u16 xo) (fun _=>trivial) (by kernel_rfl) rfl rfl (by kernel_rfl) (by kernel_rfl) (by kernel_rfl) (by kernel_rfl) (fun _ _ _ h=>by cases h.1) (LC.out _ hC0) (Or.inl ⟨by rfl,fun w' hC=>by obtain⟨e0,e1,e2,e3⟩:=hC;go_simp⟩) ?_
   simp only [Act.put,ap1,ap2,ap3]
   refine wpAnyE_takeD (i:=3) (some 50) (v:=.int .i64 (k:Int)) (fun _=>trivial) (by kernel_rfl) rfl rfl (by kernel_rfl) (by kernel_rfl) (by kernel_rfl) (by kernel_rfl) (fun _ _ _ h=>by cases h.1) (LC.out _ hC0) (Or.inl ⟨by rfl,fun w' hC=>by obtain⟨e0,e1,e2,e3⟩:=hC;go_simp⟩) ?_
   simp only [Act.put,ap1,ap2,ap3]
   refine wpAnyE_takeD (i:=5) (some 52) (v:=.agg #[.int .u8 y0,.int .u32 y1,.string y2]) (fun _=>trivial) (by kernel_rfl) rfl rfl (by kernel_rfl) (by kernel_rfl) (by kernel_rfl) (by kernel_rfl) (fun _ _ _ h=>by cases h.1) (LC.out _ hC0) (Or.inl ⟨by rfl,fun w' hC=>by obtain⟨e0,e1,e2,e3⟩:=hC;go_simp⟩) ?_
   simp only [Act.put,ap1,ap2,ap3]
   refine wpAnyE_ready (rs:=[4]) (by kernel_rfl) (by simp) ?_
   refine AllE.cons rfl (fun K hK=>?_) AllE.nil
   go_simp
   refine⟨trivial,rfl,(callsIn_wide.2 (hle.out WA.drew)).mono ?_⟩
   rintro e w5 ⟨rfl,hb5⟩
   dsimp only
   have hC5:Below WA.heap.size WA w5:=hC0.trans (show Below WA.heap.size WA.drew w5 from hb5)
   refine hK _ _ (.inr (LC.out _ hC5)) ?_
   clear hK K hb5
   refine wpAnyE_ready (rs:=[6]) (by kernel_rfl) (by simp) ?_
   refine AllE.cons rfl (fun K hK=>?_) AllE.nil
   go_simp
   refine⟨trivial,rfl,(callsIn_wide.2 (har2.out w5 (HT.out.below (HRA.out.below hC5).bel))).mono ?_⟩
   rintro e w6 ⟨rfl,hb6⟩
   dsimp only
   have hC6:Below WA.heap.size WA w6:=hC5.trans (hb6.mono hC5.size)
   refine hK _ _ (.inr (LC.out _ hC6)) ?_
   clear hK K hb6 hC5
   refine wpAnyE_ready (rs:=[7]) (by kernel_rfl) (by simp) ?_
   refine AllE.cons rfl (fun K hK=>?_) AllE.nil
   go_simp
   have hC7:Below WA.heap.size WA (w6.alloc (.cells #[.int .u8 t0,.string t1,.int .i64 t2] 81)):=hC6.alloc hC6.size _
   refine hK _ _ (.inr (LC.out _ hC7)) ?_
   clear hK K
   have had:=addTok_any (w1.heap.size+1) (w1.heap.size+2) _ _ [(t0,t1,t2)] ⟨w6.heap.size,0,none⟩ 1 1 (w6.alloc (.cells ([(t0,t1,t2)].flatMap tokC).toArray 81)) (HRA.out.below hC7).lis rfl (by decide) (newToks_cells w6 [(t0,t1,t2)] _) HFEW.out
   have HA:=hide (HRA.out.below hC7)
   refine wpAnyE_ready (rs:=[8]) (by kernel_rfl) (by simp) ?_
   refine AllE.cons rfl (fun K hK=>?_) AllE.nil
   go_simp
   refine⟨trivial,rfl,(callsIn_wide.2 had).mono ?_⟩
   rintro e w8 ⟨rfl,⟨v8,hl8⟩,hk8,hf8⟩
   dsimp only
   have HI8:=hide (HA.out.keep hk8 hl8)
   have hz:=HAB.out
   have hAw:AA<WA.heap.size:=(Array.getElem?_eq_some_iff.1 HAB.out).1
   have q8:w8.heap[AA]?=some (.cells #[.int .u8 y0,.int .u32 y1,.string y2] 61 (0,0)):=(hf8 AA (by have:=HR.out.lis.low;have:=HR.out.lis.top;omega) (Nat.lt_of_lt_of_le hAw hC7.size) (fun e=>by have:=(HR.out.lis.own.lt AA e).2;omega)).trans ((hC7.block AA hAw).trans HAB.out)
   refine hK _ _ (.inr ⟨(one_block HI8.out.ibox).1 0,(one_block q8).1 0,(one_block q8).1 1,(one_block q8).1 2⟩) ?_
   clear hK K had HA hl8 hk8 hf8 hz q8 hC7 hC6 hC0 HRA
   refine wpAnyE_done (by kernel_rfl) ⟨rfl,?_⟩ _
   rw [inBlock_thenP]
   have HE8:Hid (ItB w w8 xo xt xr (some ⟨b,o,none⟩) n cx w1.heap.size (nm,false,true,fx,rp,mo,pa) (w1.heap.size+1) (w1.heap.size+2) v8 (preTk (nm,false,true,fx,rp,mo,pa) (xo,xt,xr,l)++(argTks (nm,false,true,fx,rp,mo,pa) l).take (k+1))):=by
    show ItB _ _ _ _ _ _ _ _ _ _ _ _ _ _
    rw [HTN.out,← List.append_assoc];exact HI8.out
   clear HI8
   go_wp2_with fail
   go_roundw
   case rel=>exact⟨k+1,v8,by have:=HLT.out;omega,by go_num,HE8.out⟩
   case measure=>have:=HLT.out;simp [intOf];omega
  ·obtain rfl:k=n:=by omega
   have l0:=(one_block hR.lis.box).1 0
   obtain⟨aa,mm,cc,hvv,hTV,hlen⟩:=toksV_own hR.lis.own
   subst hvv
   have HB:=hide hR.bel
   have HTV:=hide hTV
   have HLE:=hide hlen
   clear hR i0 HR
   go_wp2_with fail
   go_ret
   refine⟨aa,mm,cc,rfl,?_,?_,HB.out⟩
   ·have h1:=HTV.out
    rw [List.take_of_length_le (by rw [argTks_len,HL.out];omega),← HTK.out] at h1
    exact h1
   ·have h1:=HLE.out
    rw [List.take_of_length_le (by rw [argTks_len,HL.out];omega),← HTK.out] at h1
    exact h1
set_option maxHeartbeats 8000000 in
theorem printTokens_ft (x:InstT) (ax:Option Addr) (n cx:Nat) (w:World) (hv:ArgsV w ax x.2.2.2) (hl:x.2.2.2.length=n) (hn:n≤1000000000) (hx:InstOk x) (hk:(lookF refT x.1).2=true) (ht:Pow10 w) (hrs:(lookF refT x.1).1.2.2.1=false) (hty:(lookF refT x.1).1.2.1=true) :
  Calls Tryz.prog 29 #[.agg #[.int .u16 x.1,.int .u32 x.2.1,.int .u32 x.2.2.1,.slice ax n cx]] w fun e w'=>∃ a m c,e=.returned (.slice a m c)∧ToksV w' a (tksI x)∧(tksI x).length=m∧Below w.heap.size w w':=by
 have hOf:=fun wx=>of_any x.1 wx
 unfold ofV formV at hOf
 rw [hk,if_pos rfl] at hOf
 have HOf:=hide hOf
 have HX:=hide hx
 have HV:=hide hv
 have HT:=hide ht
 have HL:=hide hl
 have HTK:Hid (tksI x=preTk (lookF refT x.1).1 x++argTks (lookF refT x.1).1 x.2.2.2):=rfl
 generalize tksI x=RES at *
 clear hOf hx hv ht hk hl
 generalize hfe:(lookF refT x.1).1=f at *
 obtain⟨nm,ty,rs,fx,rp,mo,pa⟩:=f
 simp only at hrs hty HOf
 subst hrs hty
 obtain⟨xo,xt,xr,l⟩:=x
 simp only at HOf HX HV HL HTK hfe ⊢
 have HFE:=hide hfe
 clear hfe
 have hba:Below w.heap.size w (w.alloc (.cells #[.int .u16 xo,.int .u32 xt,.int .u32 xr,.slice ax n cx] 38)):=(Below.refl _ w).alloc (Nat.le_refl _) _
 have HM0:=hide (heap_alloc_new w (.cells #[.int .u16 xo,.int .u32 xt,.int .u32 xr,.slice ax n cx] 38))
 have HB0:=hide hba
 have hof:=HOf.out (w.alloc (.cells #[.int .u16 xo,.int .u32 xt,.int .u32 xr,.slice ax n cx] 38))
 clear hba HOf
 go_enter Tryz.func29,Tryz.ntmps29
 go_wp2_with fail
 generalize w.alloc (.cells #[.int .u16 xo,.int .u32 xt,.int .u32 xr,.slice ax n cx] 38)=W0 at *
 refine hof.mono ?_
 rintro e w1 ⟨rfl,hb1⟩
 have hba1:Below w1.heap.size w1 ((w1.alloc (.cells #[.int .u16 xo,.string nm,.bool true,.bool false,.string fx,.string rp,.int .i64 mo,.int .u8 pa] 66)).alloc (.cells #[.slice none 0 0] 58)):=((Below.refl _ w1).alloc (Nat.le_refl _) _).alloc (by simp) _
 have hb01:=hb1.trans (hba1.mono hb1.size)
 have hlt0:w.heap.size<w1.heap.size:=by have:=(Array.getElem?_eq_some_iff.1 HM0.out).1;have:=hb1.size;omega
 have HIT:Hid (ItB w ((w1.alloc (.cells #[.int .u16 xo,.string nm,.bool true,.bool false,.string fx,.string rp,.int .i64 mo,.int .u8 pa] 66)).alloc (.cells #[.slice none 0 0] 58)) xo xt xr ax n cx w1.heap.size (nm,true,false,fx,rp,mo,pa) (w1.heap.size+1) (w1.heap.size+2) (.slice none 0 0) []):=by
  refine⟨(hb01.block _ (Array.getElem?_eq_some_iff.1 HM0.out).1).trans HM0.out,?_,⟨?_,by omega,by simp,⟨rfl,.inl ⟨rfl,rfl⟩⟩⟩,HB0.out.trans (hb01.mono HB0.out.size),by omega,by omega⟩
  ·rw [Below.heap_alloc _ _ _ (by simp)];exact heap_alloc_new _ _
  ·have:=heap_alloc_new (w1.alloc (.cells #[.int .u16 xo,.string nm,.bool true,.bool false,.string fx,.string rp,.int .i64 mo,.int .u8 pa] 66)) (.cells #[.slice none 0 0] 58);simpa using this
 clear hof hb1 hba1 hb01 HM0 HB0
 have i1:=(one_block HIT.out.ibox).1 1
 have i2:=(one_block HIT.out.ibox).1 2
 have i3:=(one_block HIT.out.ibox).1 3
 have i0:=(one_block HIT.out.ibox).1 0
 go_wp2_with fail
 generalize (w1.alloc (.cells #[.int .u16 xo,.string nm,.bool true,.bool false,.string fx,.string rp,.int .i64 mo,.int .u8 pa] 66)).alloc (.cells #[.slice none 0 0] 58)=W1 at *
 clear i0 i1 i2 i3
 refine (printWord_any nm W1).mono ?_
 rintro e w2 ⟨rfl,hb⟩
 have HI2:=hide (HIT.out.below hb)
 clear hb HIT
 unfold tokV
 go_wp2_with fail
 have had:=addTok_any (w1.heap.size+1) (w1.heap.size+2) _ _ [(1,nm,0)] ⟨w2.heap.size,0,none⟩ 1 1 (w2.alloc (.cells ([(1,nm,0)].flatMap tokC).toArray 81)) (HI2.out.below ((Below.refl _ w2).alloc (Nat.le_refl _) _)).lis rfl (by decide) (newToks_cells w2 [(1,nm,0)] _) (by simp)
 have HA:=hide (HI2.out.below ((Below.refl _ w2).alloc (Nat.le_refl _) (.cells ([(1,nm,0)].flatMap tokC).toArray 81)))
 refine had.mono ?_
 rintro e w3 ⟨rfl,⟨v3,hl3⟩,hk3,_⟩
 have HI3:=hide (HA.out.keep hk3 hl3)
 clear had HA hl3 hk3 HI2
 have i1:=(one_block HI3.out.ibox).1 1
 have i2:=(one_block HI3.out.ibox).1 2
 have i3:=(one_block HI3.out.ibox).1 3
 have i0:=(one_block HI3.out.ibox).1 0
 obtain⟨q0,f1,f2,f3,q4,q5,q6,q7⟩:=frm_cells HI3.out.fbox
 clear q0 q4 q5 q6 q7
 go_wp2_with fail
 clear i0 i1 i2 i3 f1 f2 f3
 refine (printId_any xt w3 HX.out.2.2.1 HX.out.2.2.2.1 (HT.out.below HI3.out.bel)).mono ?_
 rintro e w4 ⟨rfl,hb⟩
 have HI4:=hide (HI3.out.below hb)
 clear hb HI3
 unfold tokV
 go_wp2_with fail
 have had:=addTok_any (w1.heap.size+1) (w1.heap.size+2) _ _ [(2,dgS xt,0)] ⟨w4.heap.size,0,none⟩ 1 1 (w4.alloc (.cells ([(2,dgS xt,0)].flatMap tokC).toArray 81)) (HI4.out.below ((Below.refl _ w4).alloc (Nat.le_refl _) _)).lis rfl (by decide) (newToks_cells w4 [(2,dgS xt,0)] _) (by simp)
 have HA:=hide (HI4.out.below ((Below.refl _ w4).alloc (Nat.le_refl _) (.cells ([(2,dgS xt,0)].flatMap tokC).toArray 81)))
 refine had.mono ?_
 rintro e w5 ⟨rfl,⟨v5,hl5⟩,hk5,_⟩
 have HI5:=hide (HA.out.keep hk5 hl5)
 clear had HA hl5 hk5 HI4
 have i1:=(one_block HI5.out.ibox).1 1
 have i2:=(one_block HI5.out.ibox).1 2
 have i3:=(one_block HI5.out.ibox).1 3
 have i0:=(one_block HI5.out.ibox).1 0
 obtain⟨q0,f1,f2,f3,q4,q5,q6,q7⟩:=frm_cells HI5.out.fbox
 clear q0 q4 q5 q6 q7
 go_wp2_with fail
 clear i0 i1 i2 i3 f1 f2 f3
 go_loopw [42] (fun i wr=>∃ (k:Nat) (v:Value),k≤n∧i=.int .i64 k∧ItB w wr xo xt xr ax n cx w1.heap.size (nm,true,false,fx,rp,mo,pa) (w1.heap.size+1) (w1.heap.size+2) v (preTk (nm,true,false,fx,rp,mo,pa) (xo,xt,xr,l)++(argTks (nm,true,false,fx,rp,mo,pa) l).take k)) (fun i _=>n - (intOf i).toNat)
 case atStart=>exact⟨0,_,Nat.zero_le _,rfl,by have:=HI5.out;simpa [preTk] using this⟩
 case round =>
  obtain⟨k,v,hk,rfl,hR⟩:=hrel
  clear HI5
  have HR:=hide hR
  have i0:=(one_block hR.ibox).1 0
  by_cases hlt:k<n
  ·have HLT:=hide hlt
   have hki:(k:Int)<(n:Int):=by omega
   have hk0:(0:Int)≤(k:Int):=by omega
   obtain⟨b,o,rfl,hbs,a0,a1,a2⟩:=(HV.out.below hR.bel) k (by rw [HL.out];exact hlt)
   have HFEW:Hid ((preTk (nm,true,false,fx,rp,mo,pa) (xo,xt,xr,l)++(argTks (nm,true,false,fx,rp,mo,pa) l).take k).length+1≤1099511627776):=by
    show _≤_
    rw [List.length_append,List.length_take,argTks_len]
    have:(preTk (nm,true,false,fx,rp,mo,pa) (xo,xt,xr,l)).length≤4:=by simp [preTk]
    have:=HL.out
    omega
   have hle:=hide fun wx=>grammarLetter_any xo ((k:Nat):Int) wx (by omega)
   rw [HFE.out] at hle
   have hyo:ArgOk (nthA l k):=HX.out.2.2.2.2.2.2.1 k (by have:=HL.out;simp only;omega)
   have har:=hide fun c wx (hp:Pow10 wx)=>printArgument_any c (nthA l k) wx hyo hp
   unfold argV at har
   have HTN:=hide (argTks_snoc (nm,true,false,fx,rp,mo,pa) l k (by rw [HL.out];exact hlt))
   generalize letterI (nm,true,false,fx,rp,mo,pa) (k:Int)=cc at *
   have hba:Below wr.heap.size wr (wr.alloc (.cells #[.int .u8 (nthA l k).1,.int .u32 (nthA l k).2.1,.string (nthA l k).2.2] 61)):=(Below.refl _ wr).alloc (Nat.le_refl _) _
   have HRA:=hide (hR.below hba)
   have HAB:=hide (heap_alloc_new wr (.cells #[.int .u8 (nthA l k).1,.int .u32 (nthA l k).2.1,.string (nthA l k).2.2] 61))
   generalize nthA l k=y at *
   obtain⟨y0,y1,y2⟩:=y
   simp only at a0 a1 a2 har HRA HAB
   obtain⟨t,hte⟩:∃ t,t=argTk cc (y0,y1,y2):=⟨_,rfl⟩
   rw [← hte] at HTN
   have har2:=hide (har.out cc)
   rw [← hte] at har2
   obtain⟨t0,t1,t2⟩:=t
   unfold tokV at har2
   simp only at har2
   clear hR hbs hba hyo har hte
   go_wp2_with fail
   generalize wr.alloc (.cells #[.int .u8 y0,.int .u32 y1,.string y2] 61)=WA at *
   generalize hAA:wr.heap.size=AA at *
   clear i0 a0 a1 a2
   have LC:Hid (∀ w',Below WA.heap.size WA w'→w'.cell? ⟨w.heap.size,0,none⟩=some (.int .u16 xo)∧w'.cell? ⟨AA,0,none⟩=some (.int .u8 y0)∧w'.cell? ⟨AA,1,none⟩=some (.int .u32 y1)∧w'.cell? ⟨AA,2,none⟩=some (.string y2)):=fun w' hC=>by
    have q:=(hC.block _ (Array.getElem?_eq_some_iff.1 HAB.out).1).trans HAB.out
    exact⟨(one_block (HRA.out.below hC).ibox).1 0,(one_block q).1 0,(one_block q).1 1,(one_block q).1 2⟩
   have hC0:Below WA.heap.size WA WA.drew:=below_drew WA
   have hmix:Tryz.prog.follows .mixedOrders=true:=by kernel_rfl
   refine (wpIn_wide (n:=0)).1 ?_
   refine wpIn_normal (wpIn_region_any hmix (wpAnyE_sound (C:=fun w'=>w'.cell? ⟨w.heap.size,0,none⟩=some (.int .u16 xo)∧w'.cell? ⟨AA,0,none⟩=some (.int .u8 y0)∧w'.cell? ⟨AA,1,none⟩=some (.int .u32 y1)∧w'.cell? ⟨AA,2,none⟩=some (.string y2)) (E:=fun i=>false) _ _ _ _ ?_))
   change wpAnyE _ _ _ _ _ _ _ _ _ _ _ (World.drew _)
   refine wpAnyE_takeD (i:=0) (some 47) (v:=.func (.func 53) #[] #[.pointer (some ⟨w1.heap.size+1,0,none⟩)]) (fun _=>trivial) (by kernel_rfl) rfl rfl (by kernel_rfl) (by kernel_rfl) (by kernel_rfl) (by kernel_rfl) (fun _ _ _ h=>by cases h.1) (LC.out _ hC0) (Or.inl ⟨by rfl,fun w' hC=>by obtain⟨e0,e1,e2,e3⟩:=hC;go_simp⟩) ?_
   simp only [Act.put,ap1,ap2,ap3]
   refine wpAnyE_takeD (i:=1) (some 48) (v:=.pointer (some ⟨w.heap.size,0,none⟩)) (fun _=>trivial) (by kernel_rfl) rfl rfl (by kernel_rfl) (by kernel_rfl) (by kernel_rfl) (by kernel_rfl) (fun _ _ _ h=>by cases h.1) (LC.out _ hC0) (Or.inl ⟨by rfl,fun w' hC=>by obtain⟨e0,e1,e2,e3⟩:=hC;go_simp⟩) ?_
   simp only [Act.put,ap1,ap2,ap3]
   refine wpAnyE_takeD (i:=2) (some 49) (v:=.int .u16 xo) (fun _=>trivial) (by kernel_rfl) rfl rfl (by kernel_rfl) (by kernel_rfl) (by kernel_rfl) (by kernel_rfl) (fun _ _ _ h=>by cases h.1) (LC.out _ hC0) (Or.inl ⟨by rfl,fun w' hC=>by obtain⟨e0,e1,e2,e3⟩:=hC;go_simp⟩) ?_
   simp only [Act.put,ap1,ap2,ap3]
   refine wpAnyE_takeD (i:=3) (some 50) (v:=.int .i64 (k:Int)) (fun _=>trivial) (by kernel_rfl) rfl rfl (by kernel_rfl) (by kernel_rfl) (by kernel_rfl) (by kernel_rfl) (fun _ _ _ h=>by cases h.1) (LC.out _ hC0) (Or.inl ⟨by rfl,fun w' hC=>by obtain⟨e0,e1,e2,e3⟩:=hC;go_simp⟩) ?_
   simp only [Act.put,ap1,ap2,ap3]
   refine wpAnyE_takeD (i:=5) (some 52) (v:=.agg #[.int .u8 y0,.int .u32 y1,.string y2]) (fun _=>trivial) (by kernel_rfl) rfl rfl (by kernel_rfl) (by kernel_rfl) (by kernel_rfl) (by kernel_rfl) (fun _ _ _ h=>by cases h.1) (LC.out _ hC0) (Or.inl ⟨by rfl,fun w' hC=>by obtain⟨e0,e1,e2,e3⟩:=hC;go_simp⟩) ?_
   simp only [Act.put,ap1,ap2,ap3]
   refine wpAnyE_ready (rs:=[4]) (by kernel_rfl) (by simp) ?_
   refine AllE.cons rfl (fun K hK=>?_) AllE.nil
   go_simp
   refine⟨trivial,rfl,(callsIn_wide.2 (hle.out WA.drew)).mono ?_⟩
   rintro e w5 ⟨rfl,hb5⟩
   dsimp only
   have hC5:Below WA.heap.size WA w5:=hC0.trans (show Below WA.heap.size WA.drew w5 from hb5)
   refine hK _ _ (.inr (LC.out _ hC5)) ?_
   clear hK K hb5
   refine wpAnyE_ready (rs:=[6]) (by kernel_rfl) (by simp) ?_
   refine AllE.cons rfl (fun K hK=>?_) AllE.nil
   go_simp
   refine⟨trivial,rfl,(callsIn_wide.2 (har2.out w5 (HT.out.below (HRA.out.below hC5).bel))).mono ?_⟩
   rintro e w6 ⟨rfl,hb6⟩
   dsimp only
   have hC6:Below WA.heap.size WA w6:=hC5.trans (hb6.mono hC5.size)
   refine hK _ _ (.inr (LC.out _ hC6)) ?_
   clear hK K hb6 hC5
   refine wpAnyE_ready (rs:=[7]) (by kernel_rfl) (by simp) ?_
   refine AllE.cons rfl (fun K hK=>?_) AllE.nil
   go_simp
   have hC7:Below WA.heap.size WA (w6.alloc (.cells #[.int .u8 t0,.string t1,.int .i64 t2] 81)):=hC6.alloc hC6.size _
   refine hK _ _ (.inr (LC.out _ hC7)) ?_
   clear hK K
   have had:=addTok_any (w1.heap.size+1) (w1.heap.size+2) _ _ [(t0,t1,t2)] ⟨w6.heap.size,0,none⟩ 1 1 (w6.alloc (.cells ([(t0,t1,t2)].flatMap tokC).toArray 81)) (HRA.out.below hC7).lis rfl (by decide) (newToks_cells w6 [(t0,t1,t2)] _) HFEW.out
   have HA:=hide (HRA.out.below hC7)
   refine wpAnyE_ready (rs:=[8]) (by kernel_rfl) (by simp) ?_
   refine AllE.cons rfl (fun K hK=>?_) AllE.nil
   go_simp
   refine⟨trivial,rfl,(callsIn_wide.2 had).mono ?_⟩
   rintro e w8 ⟨rfl,⟨v8,hl8⟩,hk8,hf8⟩
   dsimp only
   have HI8:=hide (HA.out.keep hk8 hl8)
   have hz:=HAB.out
   have hAw:AA<WA.heap.size:=(Array.getElem?_eq_some_iff.1 HAB.out).1
   have q8:w8.heap[AA]?=some (.cells #[.int .u8 y0,.int .u32 y1,.string y2] 61 (0,0)):=(hf8 AA (by have:=HR.out.lis.low;have:=HR.out.lis.top;omega) (Nat.lt_of_lt_of_le hAw hC7.size) (fun e=>by have:=(HR.out.lis.own.lt AA e).2;omega)).trans ((hC7.block AA hAw).trans HAB.out)
   refine hK _ _ (.inr ⟨(one_block HI8.out.ibox).1 0,(one_block q8).1 0,(one_block q8).1 1,(one_block q8).1 2⟩) ?_
   clear hK K had HA hl8 hk8 hf8 hz q8 hC7 hC6 hC0 HRA
   refine wpAnyE_done (by kernel_rfl) ⟨rfl,?_⟩ _
   rw [inBlock_thenP]
   have HE8:Hid (ItB w w8 xo xt xr (some ⟨b,o,none⟩) n cx w1.heap.size (nm,true,false,fx,rp,mo,pa) (w1.heap.size+1) (w1.heap.size+2) v8 (preTk (nm,true,false,fx,rp,mo,pa) (xo,xt,xr,l)++(argTks (nm,true,false,fx,rp,mo,pa) l).take (k+1))):=by
    show ItB _ _ _ _ _ _ _ _ _ _ _ _ _ _
    rw [HTN.out,← List.append_assoc];exact HI8.out
   clear HI8
   go_wp2_with fail
   go_roundw
   case rel=>exact⟨k+1,v8,by have:=HLT.out;omega,by go_num,HE8.out⟩
   case measure=>have:=HLT.out;simp [intOf];omega
  ·obtain rfl:k=n:=by omega
   have l0:=(one_block hR.lis.box).1 0
   obtain⟨aa,mm,cc,hvv,hTV,hlen⟩:=toksV_own hR.lis.own
   subst hvv
   have HB:=hide hR.bel
   have HTV:=hide hTV
   have HLE:=hide hlen
   clear hR i0 HR
   go_wp2_with fail
   go_ret
   refine⟨aa,mm,cc,rfl,?_,?_,HB.out⟩
   ·have h1:=HTV.out
    rw [List.take_of_length_le (by rw [argTks_len,HL.out];omega),← HTK.out] at h1
    exact h1
   ·have h1:=HLE.out
    rw [List.take_of_length_le (by rw [argTks_len,HL.out];omega),← HTK.out] at h1
    exact h1
set_option maxHeartbeats 8000000 in
theorem printTokens_ff (x:InstT) (ax:Option Addr) (n cx:Nat) (w:World) (hv:ArgsV w ax x.2.2.2) (hl:x.2.2.2.length=n) (hn:n≤1000000000) (hx:InstOk x) (hk:(lookF refT x.1).2=true) (ht:Pow10 w) (hrs:(lookF refT x.1).1.2.2.1=false) (hty:(lookF refT x.1).1.2.1=false) :
  Calls Tryz.prog 29 #[.agg #[.int .u16 x.1,.int .u32 x.2.1,.int .u32 x.2.2.1,.slice ax n cx]] w fun e w'=>∃ a m c,e=.returned (.slice a m c)∧ToksV w' a (tksI x)∧(tksI x).length=m∧Below w.heap.size w w':=by
 have hOf:=fun wx=>of_any x.1 wx
 unfold ofV formV at hOf
 rw [hk,if_pos rfl] at hOf
 have HOf:=hide hOf
 have HX:=hide hx
 have HV:=hide hv
 have HT:=hide ht
 have HL:=hide hl
 have HTK:Hid (tksI x=preTk (lookF refT x.1).1 x++argTks (lookF refT x.1).1 x.2.2.2):=rfl
 generalize tksI x=RES at *
 clear hOf hx hv ht hk hl
 generalize hfe:(lookF refT x.1).1=f at *
 obtain⟨nm,ty,rs,fx,rp,mo,pa⟩:=f
 simp only at hrs hty HOf
 subst hrs hty
 obtain⟨xo,xt,xr,l⟩:=x
 simp only at HOf HX HV HL HTK hfe ⊢
 have HFE:=hide hfe
 clear hfe
 have hba:Below w.heap.size w (w.alloc (.cells #[.int .u16 xo,.int .u32 xt,.int .u32 xr,.slice ax n cx] 38)):=(Below.refl _ w).alloc (Nat.le_refl _) _
 have HM0:=hide (heap_alloc_new w (.cells #[.int .u16 xo,.int .u32 xt,.int .u32 xr,.slice ax n cx] 38))
 have HB0:=hide hba
 have hof:=HOf.out (w.alloc (.cells #[.int .u16 xo,.int .u32 xt,.int .u32 xr,.slice ax n cx] 38))
 clear hba HOf
 go_enter Tryz.func29,Tryz.ntmps29
 go_wp2_with fail
 generalize w.alloc (.cells #[.int .u16 xo,.int .u32 xt,.int .u32 xr,.slice ax n cx] 38)=W0 at *
 refine hof.mono ?_
 rintro e w1 ⟨rfl,hb1⟩
 have hba1:Below w1.heap.size w1 ((w1.alloc (.cells #[.int .u16 xo,.string nm,.bool false,.bool false,.string fx,.string rp,.int .i64 mo,.int .u8 pa] 66)).alloc (.cells #[.slice none 0 0] 58)):=((Below.refl _ w1).alloc (Nat.le_refl _) _).alloc (by simp) _
 have hb01:=hb1.trans (hba1.mono hb1.size)
 have hlt0:w.heap.size<w1.heap.size:=by have:=(Array.getElem?_eq_some_iff.1 HM0.out).1;have:=hb1.size;omega
 have HIT:Hid (ItB w ((w1.alloc (.cells #[.int .u16 xo,.string nm,.bool false,.bool false,.string fx,.string rp,.int .i64 mo,.int .u8 pa] 66)).alloc (.cells #[.slice none 0 0] 58)) xo xt xr ax n cx w1.heap.size (nm,false,false,fx,rp,mo,pa) (w1.heap.size+1) (w1.heap.size+2) (.slice none 0 0) []):=by
  refine⟨(hb01.block _ (Array.getElem?_eq_some_iff.1 HM0.out).1).trans HM0.out,?_,⟨?_,by omega,by simp,⟨rfl,.inl ⟨rfl,rfl⟩⟩⟩,HB0.out.trans (hb01.mono HB0.out.size),by omega,by omega⟩
  ·rw [Below.heap_alloc _ _ _ (by simp)];exact heap_alloc_new _ _
  ·have:=heap_alloc_new (w1.alloc (.cells #[.int .u16 xo,.string nm,.bool false,.bool false,.string fx,.string rp,.int .i64 mo,.int .u8 pa] 66)) (.cells #[.slice none 0 0] 58);simpa using this
 clear hof hb1 hba1 hb01 HM0 HB0
 have i1:=(one_block HIT.out.ibox).1 1
 have i2:=(one_block HIT.out.ibox).1 2
 have i3:=(one_block HIT.out.ibox).1 3
 have i0:=(one_block HIT.out.ibox).1 0
 go_wp2_with fail
 generalize (w1.alloc (.cells #[.int .u16 xo,.string nm,.bool false,.bool false,.string fx,.string rp,.int .i64 mo,.int .u8 pa] 66)).alloc (.cells #[.slice none 0 0] 58)=W1 at *
 clear i0 i1 i2 i3
 refine (printWord_any nm W1).mono ?_
 rintro e w2 ⟨rfl,hb⟩
 have HI2:=hide (HIT.out.below hb)
 clear hb HIT
 unfold tokV
 go_wp2_with fail
 have had:=addTok_any (w1.heap.size+1) (w1.heap.size+2) _ _ [(1,nm,0)] ⟨w2.heap.size,0,none⟩ 1 1 (w2.alloc (.cells ([(1,nm,0)].flatMap tokC).toArray 81)) (HI2.out.below ((Below.refl _ w2).alloc (Nat.le_refl _) _)).lis rfl (by decide) (newToks_cells w2 [(1,nm,0)] _) (by simp)
 have HA:=hide (HI2.out.below ((Below.refl _ w2).alloc (Nat.le_refl _) (.cells ([(1,nm,0)].flatMap tokC).toArray 81)))
 refine had.mono ?_
 rintro e w3 ⟨rfl,⟨v3,hl3⟩,hk3,_⟩
 have HI3:=hide (HA.out.keep hk3 hl3)
 clear had HA hl3 hk3 HI2
 have i1:=(one_block HI3.out.ibox).1 1
 have i2:=(one_block HI3.out.ibox).1 2
 have i3:=(one_block HI3.out.ibox).1 3
 have i0:=(one_block HI3.out.ibox).1 0
 obtain⟨q0,f1,f2,f3,q4,q5,q6,q7⟩:=frm_cells HI3.out.fbox
 clear q0 q4 q5 q6 q7
 go_wp2_with fail
 clear i0 i1 i2 i3 f1 f2 f3
 go_loopw [42] (fun i wr=>∃ (k:Nat) (v:Value),k≤n∧i=.int .i64 k∧ItB w wr xo xt xr ax n cx w1.heap.size (nm,false,false,fx,rp,mo,pa) (w1.heap.size+1) (w1.heap.size+2) v (preTk (nm,false,false,fx,rp,mo,pa) (xo,xt,xr,l)++(argTks (nm,false,false,fx,rp,mo,pa) l).take k)) (fun i _=>n - (intOf i).toNat)
 case atStart=>exact⟨0,_,Nat.zero_le _,rfl,by have:=HI3.out;simpa [preTk] using this⟩
 case round =>
  obtain⟨k,v,hk,rfl,hR⟩:=hrel
  clear HI3
  have HR:=hide hR
  have i0:=(one_block hR.ibox).1 0
  by_cases hlt:k<n
  ·have HLT:=hide hlt
   have hki:(k:Int)<(n:Int):=by omega
   have hk0:(0:Int)≤(k:Int):=by omega
   obtain⟨b,o,rfl,hbs,a0,a1,a2⟩:=(HV.out.below hR.bel) k (by rw [HL.out];exact hlt)
   have HFEW:Hid ((preTk (nm,false,false,fx,rp,mo,pa) (xo,xt,xr,l)++(argTks (nm,false,false,fx,rp,mo,pa) l).take k).length+1≤1099511627776):=by
    show _≤_
    rw [List.length_append,List.length_take,argTks_len]
    have:(preTk (nm,false,false,fx,rp,mo,pa) (xo,xt,xr,l)).length≤4:=by simp [preTk]
    have:=HL.out
    omega
   have hle:=hide fun wx=>grammarLetter_any xo ((k:Nat):Int) wx (by omega)
   rw [HFE.out] at hle
   have hyo:ArgOk (nthA l k):=HX.out.2.2.2.2.2.2.1 k (by have:=HL.out;simp only;omega)
   have har:=hide fun c wx (hp:Pow10 wx)=>printArgument_any c (nthA l k) wx hyo hp
   unfold argV at har
   have HTN:=hide (argTks_snoc (nm,false,false,fx,rp,mo,pa) l k (by rw [HL.out];exact hlt))
   generalize letterI (nm,false,false,fx,rp,mo,pa) (k:Int)=cc at *
   have hba:Below wr.heap.size wr (wr.alloc (.cells #[.int .u8 (nthA l k).1,.int .u32 (nthA l k).2.1,.string (nthA l k).2.2] 61)):=(Below.refl _ wr).alloc (Nat.le_refl _) _
   have HRA:=hide (hR.below hba)
   have HAB:=hide (heap_alloc_new wr (.cells #[.int .u8 (nthA l k).1,.int .u32 (nthA l k).2.1,.string (nthA l k).2.2] 61))
   generalize nthA l k=y at *
   obtain⟨y0,y1,y2⟩:=y
   simp only at a0 a1 a2 har HRA HAB
   obtain⟨t,hte⟩:∃ t,t=argTk cc (y0,y1,y2):=⟨_,rfl⟩
   rw [← hte] at HTN
   have har2:=hide (har.out cc)
   rw [← hte] at har2
   obtain⟨t0,t1,t2⟩:=t
   unfold tokV at har2
   simp only at har2
   clear hR hbs hba hyo har hte
   go_wp2_with fail
   generalize wr.alloc (.cells #[.int .u8 y0,.int .u32 y1,.string y2] 61)=WA at *
   generalize hAA:wr.heap.size=AA at *
   clear i0 a0 a1 a2
   have LC:Hid (∀ w',Below WA.heap.size WA w'→w'.cell? ⟨w.heap.size,0,none⟩=some (.int .u16 xo)∧w'.cell? ⟨AA,0,none⟩=some (.int .u8 y0)∧w'.cell? ⟨AA,1,none⟩=some (.int .u32 y1)∧w'.cell? ⟨AA,2,none⟩=some (.string y2)):=fun w' hC=>by
    have q:=(hC.block _ (Array.getElem?_eq_some_iff.1 HAB.out).1).trans HAB.out
    exact⟨(one_block (HRA.out.below hC).ibox).1 0,(one_block q).1 0,(one_block q).1 1,(one_block q).1 2⟩
   have hC0:Below WA.heap.size WA WA.drew:=below_drew WA
   have hmix:Tryz.prog.follows .mixedOrders=true:=by kernel_rfl
   refine (wpIn_wide (n:=0)).1 ?_
   refine wpIn_normal (wpIn_region_any hmix (wpAnyE_sound (C:=fun w'=>w'.cell? ⟨w.heap.size,0,none⟩=some (.int .u16 xo)∧w'.cell? ⟨AA,0,none⟩=some (.int .u8 y0)∧w'.cell? ⟨AA,1,none⟩=some (.int .u32 y1)∧w'.cell? ⟨AA,2,none⟩=some (.string y2)) (E:=fun i=>false) _ _ _ _ ?_))
   change wpAnyE _ _ _ _ _ _ _ _ _ _ _ (World.drew _)
   refine wpAnyE_takeD (i:=0) (some 47) (v:=.func (.func 53) #[] #[.pointer (some ⟨w1.heap.size+1,0,none⟩)]) (fun _=>trivial) (by kernel_rfl) rfl rfl (by kernel_rfl) (by kernel_rfl) (by kernel_rfl) (by kernel_rfl) (fun _ _ _ h=>by cases h.1) (LC.out _ hC0) (Or.inl ⟨by rfl,fun w' hC=>by obtain⟨e0,e1,e2,e3⟩:=hC;go_simp⟩) ?_
   simp only [Act.put,ap1,ap2,ap3]
   refine wpAnyE_takeD (i:=1) (some 48) (v:=.pointer (some ⟨w.heap.size,0,none⟩)) (fun _=>trivial) (by kernel_rfl) rfl rfl (by kernel_rfl) (by kernel_rfl) (by kernel_rfl) (by kernel_rfl) (fun _ _ _ h=>by cases h.1) (LC.out _ hC0) (Or.inl ⟨by rfl,fun w' hC=>by obtain⟨e0,e1,e2,e3⟩:=hC;go_simp⟩) ?_
   simp only [Act.put,ap1,ap2,ap3]
   refine wpAnyE_takeD (i:=2) (some 49) (v:=.int .u16 xo) (fun _=>trivial) (by kernel_rfl) rfl rfl (by kernel_rfl) (by kernel_rfl) (by kernel_rfl) (by kernel_rfl) (fun _ _ _ h=>by cases h.1) (LC.out _ hC0) (Or.inl ⟨by rfl,fun w' hC=>by obtain⟨e0,e1,e2,e3⟩:=hC;go_simp⟩) ?_
   simp only [Act.put,ap1,ap2,ap3]
   refine wpAnyE_takeD (i:=3) (some 50) (v:=.int .i64 (k:Int)) (fun _=>trivial) (by kernel_rfl) rfl rfl (by kernel_rfl) (by kernel_rfl) (by kernel_rfl) (by kernel_rfl) (fun _ _ _ h=>by cases h.1) (LC.out _ hC0) (Or.inl ⟨by rfl,fun w' hC=>by obtain⟨e0,e1,e2,e3⟩:=hC;go_simp⟩) ?_
   simp only [Act.put,ap1,ap2,ap3]
   refine wpAnyE_takeD (i:=5) (some 52) (v:=.agg #[.int .u8 y0,.int .u32 y1,.string y2]) (fun _=>trivial) (by kernel_rfl) rfl rfl (by kernel_rfl) (by kernel_rfl) (by kernel_rfl) (by kernel_rfl) (fun _ _ _ h=>by cases h.1) (LC.out _ hC0) (Or.inl ⟨by rfl,fun w' hC=>by obtain⟨e0,e1,e2,e3⟩:=hC;go_simp⟩) ?_
   simp only [Act.put,ap1,ap2,ap3]
   refine wpAnyE_ready (rs:=[4]) (by kernel_rfl) (by simp) ?_
   refine AllE.cons rfl (fun K hK=>?_) AllE.nil
   go_simp
   refine⟨trivial,rfl,(callsIn_wide.2 (hle.out WA.drew)).mono ?_⟩
   rintro e w5 ⟨rfl,hb5⟩
   dsimp only
   have hC5:Below WA.heap.size WA w5:=hC0.trans (show Below WA.heap.size WA.drew w5 from hb5)
   refine hK _ _ (.inr (LC.out _ hC5)) ?_
   clear hK K hb5
   refine wpAnyE_ready (rs:=[6]) (by kernel_rfl) (by simp) ?_
   refine AllE.cons rfl (fun K hK=>?_) AllE.nil
   go_simp
   refine⟨trivial,rfl,(callsIn_wide.2 (har2.out w5 (HT.out.below (HRA.out.below hC5).bel))).mono ?_⟩
   rintro e w6 ⟨rfl,hb6⟩
   dsimp only
   have hC6:Below WA.heap.size WA w6:=hC5.trans (hb6.mono hC5.size)
   refine hK _ _ (.inr (LC.out _ hC6)) ?_
   clear hK K hb6 hC5
   refine wpAnyE_ready (rs:=[7]) (by kernel_rfl) (by simp) ?_
   refine AllE.cons rfl (fun K hK=>?_) AllE.nil
   go_simp
   have hC7:Below WA.heap.size WA (w6.alloc (.cells #[.int .u8 t0,.string t1,.int .i64 t2] 81)):=hC6.alloc hC6.size _
   refine hK _ _ (.inr (LC.out _ hC7)) ?_
   clear hK K
   have had:=addTok_any (w1.heap.size+1) (w1.heap.size+2) _ _ [(t0,t1,t2)] ⟨w6.heap.size,0,none⟩ 1 1 (w6.alloc (.cells ([(t0,t1,t2)].flatMap tokC).toArray 81)) (HRA.out.below hC7).lis rfl (by decide) (newToks_cells w6 [(t0,t1,t2)] _) HFEW.out
   have HA:=hide (HRA.out.below hC7)
   refine wpAnyE_ready (rs:=[8]) (by kernel_rfl) (by simp) ?_
   refine AllE.cons rfl (fun K hK=>?_) AllE.nil
   go_simp
   refine⟨trivial,rfl,(callsIn_wide.2 had).mono ?_⟩
   rintro e w8 ⟨rfl,⟨v8,hl8⟩,hk8,hf8⟩
   dsimp only
   have HI8:=hide (HA.out.keep hk8 hl8)
   have hz:=HAB.out
   have hAw:AA<WA.heap.size:=(Array.getElem?_eq_some_iff.1 HAB.out).1
   have q8:w8.heap[AA]?=some (.cells #[.int .u8 y0,.int .u32 y1,.string y2] 61 (0,0)):=(hf8 AA (by have:=HR.out.lis.low;have:=HR.out.lis.top;omega) (Nat.lt_of_lt_of_le hAw hC7.size) (fun e=>by have:=(HR.out.lis.own.lt AA e).2;omega)).trans ((hC7.block AA hAw).trans HAB.out)
   refine hK _ _ (.inr ⟨(one_block HI8.out.ibox).1 0,(one_block q8).1 0,(one_block q8).1 1,(one_block q8).1 2⟩) ?_
   clear hK K had HA hl8 hk8 hf8 hz q8 hC7 hC6 hC0 HRA
   refine wpAnyE_done (by kernel_rfl) ⟨rfl,?_⟩ _
   rw [inBlock_thenP]
   have HE8:Hid (ItB w w8 xo xt xr (some ⟨b,o,none⟩) n cx w1.heap.size (nm,false,false,fx,rp,mo,pa) (w1.heap.size+1) (w1.heap.size+2) v8 (preTk (nm,false,false,fx,rp,mo,pa) (xo,xt,xr,l)++(argTks (nm,false,false,fx,rp,mo,pa) l).take (k+1))):=by
    show ItB _ _ _ _ _ _ _ _ _ _ _ _ _ _
    rw [HTN.out,← List.append_assoc];exact HI8.out
   clear HI8
   go_wp2_with fail
   go_roundw
   case rel=>exact⟨k+1,v8,by have:=HLT.out;omega,by go_num,HE8.out⟩
   case measure=>have:=HLT.out;simp [intOf];omega
  ·obtain rfl:k=n:=by omega
   have l0:=(one_block hR.lis.box).1 0
   obtain⟨aa,mm,cc,hvv,hTV,hlen⟩:=toksV_own hR.lis.own
   subst hvv
   have HB:=hide hR.bel
   have HTV:=hide hTV
   have HLE:=hide hlen
   clear hR i0 HR
   go_wp2_with fail
   go_ret
   refine⟨aa,mm,cc,rfl,?_,?_,HB.out⟩
   ·have h1:=HTV.out
    rw [List.take_of_length_le (by rw [argTks_len,HL.out];omega),← HTK.out] at h1
    exact h1
   ·have h1:=HLE.out
    rw [List.take_of_length_le (by rw [argTks_len,HL.out];omega),← HTK.out] at h1
    exact h1
theorem printTokens_any (x:InstT) (ax:Option Addr) (n cx:Nat) (w:World) (hv:ArgsV w ax x.2.2.2) (hl:x.2.2.2.length=n) (hn:n≤1000000000) (hx:InstOk x) (hk:(lookF refT x.1).2=true) (ht:Pow10 w) :
  Calls Tryz.prog 29 #[.agg #[.int .u16 x.1,.int .u32 x.2.1,.int .u32 x.2.2.1,.slice ax n cx]] w fun e w'=>∃ a m c,e=.returned (.slice a m c)∧ToksV w' a (tksI x)∧(tksI x).length=m∧Below w.heap.size w w':=by
 cases hrs:(lookF refT x.1).1.2.2.1 <;> cases hty:(lookF refT x.1).1.2.1
 ·exact printTokens_ff x ax n cx w hv hl hn hx hk ht hrs hty
 ·exact printTokens_ft x ax n cx w hv hl hn hx hk ht hrs hty
 ·exact printTokens_tf x ax n cx w hv hl hn hx hk ht hrs hty
 ·exact printTokens_tt x ax n cx w hv hl hn hx hk ht hrs hty
theorem printable_any (c:Int) (w:World) (h0:0≤c) (h1:c<256) :
  Calls Tryz.prog 134 #[.int .u8 c] w fun e w'=>e=.returned (.bool (printB c))∧w=w':=by
 by_cases a:32≤c
 ·by_cases b:c≤126
  ·have H:Hid (printB c=true):=by show _=_;simp [printB];omega
   go_enter Tryz.func134,Tryz.ntmps134
   go_wp2
   go_ret
   exact⟨by rw [H.out];first | rfl | (simp;done) | (simp;omega),rfl⟩
  ·have H:Hid (printB c=false):=by show _=_;simp [printB];omega
   go_enter Tryz.func134,Tryz.ntmps134
   go_wp2
   go_ret
   exact⟨by rw [H.out];first | rfl | (simp;done) | (simp;omega),rfl⟩
 ·have H:Hid (printB c=false):=by show _=_;simp [printB];omega
  go_enter Tryz.func134,Tryz.ntmps134
  go_wp2
  go_ret
  exact⟨by rw [H.out];first | rfl | (simp;done) | (simp;omega),rfl⟩
theorem hexDigit_any (c:Int) (w:World) (h0:0≤c) (h1:c<16) :
  Calls Tryz.prog 135 #[.int .u8 c] w fun e w'=>e=.returned (.int .u8 (if c<10 then 48+c else 87+c))∧w=w':=by
 by_cases a:c<10
 ·rw [if_pos a]
  go_enter Tryz.func135,Tryz.ntmps135
  go_wp2
  go_ret
  exact⟨ret_int (by omega),rfl⟩
 ·rw [if_neg a]
  go_enter Tryz.func135,Tryz.ntmps135
  go_wp2
  go_ret
  exact⟨ret_int (by omega),rfl⟩
theorem inRun_any (k:Int) (w:World) (h0:0≤k) (h1:k<256) :
  Calls Tryz.prog 129 #[.int .u8 k] w fun e w'=>e=.returned (.bool (k==3 || k==4))∧w=w':=by
 by_cases a:k=3
 ·subst a
  go_enter Tryz.func129,Tryz.ntmps129
  go_wp2
  go_ret
  exact⟨rfl,rfl⟩
 ·have a':(k==3)=false:=by simpa using a
  go_enter Tryz.func129,Tryz.ntmps129
  go_wp2
  go_ret
  exact⟨by rw [a'];rfl,rfl⟩
theorem kindL_letter {c:Int} (h:letterB c=true):kindL c=3:=by simp [kindL,h]
theorem kindL_digit {c:Int} (h:digitB c=true):kindL c=4:=by
 have:letterB c=false:=by
  simp only [digitB,decide_eq_true_eq] at h
  simp [letterB];omega
 simp [kindL,h,this]
set_option maxHeartbeats 1000000 in
theorem lexKindOf_any (c:Int) (w:World) (h0:0≤c) (h1:c<256) :
  Calls Tryz.prog 130 #[.int .u8 c] w fun e w'=>e=.returned (.int .u8 (kindL c))∧w=w':=by
 by_cases a0:c=95
 ·subst a0
  go_enter Tryz.func130,Tryz.ntmps130
  go_wp2
  go_ret
  exact⟨rfl,rfl⟩
 by_cases a1:65≤c∧c≤90
 ·have H:Hid (kindL c=3):=kindL_letter (by simp [letterB];omega)
  have b0:(c==95)=false:=by simpa using a0
  obtain⟨a2,a3⟩:=a1
  clear a0
  go_enter Tryz.func130,Tryz.ntmps130
  go_wp2
  go_ret
  exact⟨by rw [H.out];rfl,rfl⟩
 by_cases a2:97≤c∧c≤122
 ·have H:Hid (kindL c=3):=kindL_letter (by simp [letterB];omega)
  have b0:(c==95)=false:=by simpa using a0
  have b1:65≤c:=by omega
  have b2:¬ c≤90:=by omega
  obtain⟨a4,a3⟩:=a2
  clear a0 a1
  go_enter Tryz.func130,Tryz.ntmps130
  go_wp2
  go_ret
  exact⟨by rw [H.out];rfl,rfl⟩
 have d1:(decide (65≤c) && decide (c≤90))=false:=by simpa using a1
 have d2:(decide (97≤c) && decide (c≤122))=false:=by simpa using a2
 have hL:letterB c=false:=by simp [letterB,a0];omega
 have b0:(c==95)=false:=by simpa using a0
 by_cases a3:48≤c∧c≤57
 ·have H:Hid (kindL c=4):=kindL_digit (by simp [digitB];omega)
  obtain⟨a4,a5⟩:=a3
  have b1:¬ 65≤c:=by omega
  have b2:¬ 97≤c:=by omega
  clear a0 a1 a2 d1 d2 hL
  go_enter Tryz.func130,Tryz.ntmps130
  go_wp2
  go_ret
  exact⟨by rw [H.out];rfl,rfl⟩
 have hD:digitB c=false:=by simp [digitB];omega
 have HK:Hid (kindL c=if blankB c then 2 else if c=37 then 5 else if c=45 then 6 else if c=34 then 7 else if c=92 then 8 else if c=61 then 9 else if c=59 then 10 else 1):=by
  show _=_
  simp only [kindL,hL,hD];rfl
 by_cases e0:c=9∨c=13∨c=32∨c=37∨c=45∨c=34∨c=61∨c=59
 ·rcases e0 with rfl | rfl | rfl | rfl | rfl | rfl | rfl | rfl <;>
  ·go_enter Tryz.func130,Tryz.ntmps130
   go_wp2
   go_ret
   exact⟨rfl,rfl⟩
 by_cases e1:c=92
 ·subst e1
  go_enter Tryz.func130,Tryz.ntmps130
  go_wp2
  go_ret
  exact⟨rfl,rfl⟩
 simp only [not_or] at e0
 obtain⟨f0,f1,f2,f3,f4,f5,f6,f7⟩:=e0
 have H:Hid (kindL c=1):=by
  show _=_
  rw [HK.out,if_neg (by simp [blankB];omega),if_neg f3,if_neg f4,if_neg f5,if_neg e1,if_neg f6,if_neg f7]
 have g0:(c==9)=false:=by simpa using f0
 have g1:(c==13)=false:=by simpa using f1
 have g2:(c==32)=false:=by simpa using f2
 have g3:(c==37)=false:=by simpa using f3
 have g4:(c==45)=false:=by simpa using f4
 have g5:(c==34)=false:=by simpa using f5
 have g6:(c==61)=false:=by simpa using f6
 have g7:(c==59)=false:=by simpa using f7
 have g8:(c==92)=false:=by simpa using e1
 clear f0 f1 f2 f3 f4 f5 f6 f7 e1 HK hD hL a0
 by_cases m0:65≤c
 ·have m1:¬ c≤90:=by omega
  by_cases m2:97≤c
  ·have m3:¬ c≤122:=by omega
   have m4:48≤c:=by omega
   have m5:¬ c≤57:=by omega
   clear a1 a2 a3 d1 d2
   go_enter Tryz.func130,Tryz.ntmps130
   go_wp2
   go_ret
   exact⟨by rw [H.out];rfl,rfl⟩
  ·have m4:48≤c:=by omega
   have m5:¬ c≤57:=by omega
   clear a1 a2 a3 d1 d2
   go_enter Tryz.func130,Tryz.ntmps130
   go_wp2
   go_ret
   exact⟨by rw [H.out];rfl,rfl⟩
 ·have m2:¬ 97≤c:=by omega
  by_cases m4:48≤c
  ·have m5:¬ c≤57:=by omega
   clear a1 a2 a3 d1 d2
   go_enter Tryz.func130,Tryz.ntmps130
   go_wp2
   go_ret
   exact⟨by rw [H.out];rfl,rfl⟩
  ·clear a1 a2 a3 d1 d2
   go_enter Tryz.func130,Tryz.ntmps130
   go_wp2
   go_ret
   exact⟨by rw [H.out];rfl,rfl⟩
theorem digitValue_any (c:Int) (w:World) (h0:0≤c) (h1:c<256) :
  Calls Tryz.prog 155 #[.int .u8 c] w fun e w'=>e=.returned (.int .u64 (dvI c))∧w=w':=by
 have hE:∀ c,48≤c→c≤57→dvI c=c - 48:=fun c a b=>by
  unfold dvI worthI;rw [if_pos (by simp [hexB,digitB];omega),if_pos b]
 have hF:∀ c,97≤c→c≤102→dvI c=c - 87:=fun c a b=>by
  unfold dvI worthI;rw [if_pos (by simp [hexB,digitB];omega),if_neg (by omega),if_pos a]
 have hG:∀ c,65≤c→c≤70→dvI c=c - 55:=fun c a b=>by
  unfold dvI worthI;rw [if_pos (by simp [hexB,digitB];omega),if_neg (by omega),if_neg (by omega)]
 by_cases a0:48≤c
 ·by_cases a1:c≤57
  ·have H:Hid (dvI c=c - 48):=hE c a0 a1
   clear hE hF hG
   go_enter Tryz.func155,Tryz.ntmps155
   go_wp2
   go_ret
   exact⟨by rw [H.out];rfl,rfl⟩
  ·by_cases a2:97≤c
   ·by_cases a3:c≤102
    ·have H:Hid (dvI c=c - 87):=hF c a2 a3
     clear hE hF hG
     go_enter Tryz.func155,Tryz.ntmps155
     go_wp2
     go_ret
     exact⟨by rw [H.out];exact ret_int (by omega),rfl⟩
    ·have H:Hid (dvI c=18446744073709551615):=by show _=_;unfold dvI;rw [if_neg (by simp [hexB,digitB];omega)]
     have a4:65≤c:=by omega
     have a5:¬ c≤70:=by omega
     clear hE hF hG
     go_enter Tryz.func155,Tryz.ntmps155
     go_wp2
     go_ret
     exact⟨by rw [H.out];rfl,rfl⟩
   ·by_cases a3:65≤c
    ·by_cases a5:c≤70
     ·have H:Hid (dvI c=c - 55):=hG c a3 a5
      clear hE hF hG
      go_enter Tryz.func155,Tryz.ntmps155
      go_wp2
      go_ret
      exact⟨by rw [H.out];exact ret_int (by omega),rfl⟩
     ·have H:Hid (dvI c=18446744073709551615):=by show _=_;unfold dvI;rw [if_neg (by simp [hexB,digitB];omega)]
      clear hE hF hG
      go_enter Tryz.func155,Tryz.ntmps155
      go_wp2
      go_ret
      exact⟨by rw [H.out];rfl,rfl⟩
    ·have H:Hid (dvI c=18446744073709551615):=by show _=_;unfold dvI;rw [if_neg (by simp [hexB,digitB];omega)]
     clear hE hF hG
     go_enter Tryz.func155,Tryz.ntmps155
     go_wp2
     go_ret
     exact⟨by rw [H.out];rfl,rfl⟩
 ·have H:Hid (dvI c=18446744073709551615):=by show _=_;unfold dvI;rw [if_neg (by simp [hexB,digitB];omega)]
  have a2:¬ 97≤c:=by omega
  have a3:¬ 65≤c:=by omega
  clear hE hF hG
  go_enter Tryz.func155,Tryz.ntmps155
  go_wp2
  go_ret
  exact⟨by rw [H.out];rfl,rfl⟩
end Go.Proofs.YtonhnflilfjkbaaGreatDoor
