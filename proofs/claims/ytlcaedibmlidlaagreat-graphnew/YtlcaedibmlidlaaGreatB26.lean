/-
  Texts in one: Ref05Cut, GraphAmong.
-/
import Derived.Test.YtlcaedibmlidlaaGreatB25
namespace Go.Proofs.YtlcaedibmlidlaaGreat
open Go.RowKit
set_option linter.unusedVariables false
set_option linter.unusedSimpArgs false
set_option maxRecDepth 10000
theorem inBlock_then {K:Act→World→Prop} {Q:Exit→Act→World→Prop} {n:Nat} {a:Act} {w:World}:Exit.inBlock n (Exit.then K Q) .normal a w=K a w:=rfl
theorem alloc_set5 (w:World) (o:Obj) (F i:Nat) (v:Value) (h:F<w.heap.size):(w.setCell ⟨F,i,none⟩ v).alloc o=(w.alloc o).setCell ⟨F,i,none⟩ v:=by
 exact (World.setCell_alloc_past o F i v h).symm
theorem last_below {w w':World} {lo:Nat} {fv:Value} {fs:List FuncT} {f:FuncT} {F c:Nat} {P Q:Value} (h:FuncsAt w lo fv (fs++[f])) (hL:LastF w lo fv fs f F c P Q) (hb:Below w.heap.size w w'):LastF w' lo fv fs f F c P Q:=by
 obtain⟨F2,c2,P2,Q2,hL3⟩:=(h.below hb).last
 have e:=hL3.val.symm.trans hL.val
 simp only [Value.slice.injEq,Option.some.injEq,Addr.mk.injEq] at e
 obtain⟨⟨rfl,_⟩,_,rfl⟩:=e
 have e2:=hL3.c2.symm.trans ((hb.cell (p:=⟨F2,fs.length * 5+2,none⟩) hL.lt).trans hL.c2)
 have e3:=hL3.c3.symm.trans ((hb.cell (p:=⟨F2,fs.length * 5+3,none⟩) hL.lt).trans hL.c3)
 simp only [Option.some.injEq] at e2 e3
 subst e2 e3
 exact hL3
set_option maxHeartbeats 16000000 in
theorem refCut5_any (gen bnd:Int) (a:Option Addr) (n c:Nat) (l:List InstT) (w:World) (hv:InstsV w a l) (hok:InstsOk l) (hl:l.length=n) (hn:40 * n≤140737488351232) (b0:0≤bnd) (b1:bnd<4294967296) :
  Calls Tryz.prog 6 #[modV gen bnd a n c] w fun e w'=>CutQ w w' bnd l e:=by
 have hb0:Below w.heap.size w ((w.alloc (.cells #[.int .u32 gen,.int .u32 bnd,.slice a n c] 25)).alloc (.cells #[.int .i64 0,.int .i64 0] 33)):=((Below.refl _ w).alloc (Nat.le_refl _) _).alloc (by simp) _
 have hC:=refCheck5_any gen bnd a n c l _ (hv.below hb0) hok hl hn b0 b1
 have HMB:Hid (((w.alloc (.cells #[.int .u32 gen,.int .u32 bnd,.slice a n c] 25)).alloc (.cells #[.int .i64 0,.int .i64 0] 33)).heap[w.heap.size]?=some (.cells #[.int .u32 gen,.int .u32 bnd,.slice a n c] 25 (0,0))):=by
  show _=_
  rw [Below.heap_alloc _ _ _ (by simp)];exact heap_alloc_new w _
 have HSB:Hid (((w.alloc (.cells #[.int .u32 gen,.int .u32 bnd,.slice a n c] 25)).alloc (.cells #[.int .i64 0,.int .i64 0] 33)).heap[w.heap.size+1]?=some (.cells #[.int .i64 0,.int .i64 0] 33 (0,0))):=by
  have:=heap_alloc_new (w.alloc (.cells #[.int .u32 gen,.int .u32 bnd,.slice a n c] 25)) (.cells #[.int .i64 0,.int .i64 0] 33)
  rw [World.size_alloc] at this
  exact this
 have HLT:Hid (w.heap.size+1<((w.alloc (.cells #[.int .u32 gen,.int .u32 bnd,.slice a n c] 25)).alloc (.cells #[.int .i64 0,.int .i64 0] 33)).heap.size):=by show _<_;simp
 have HB0:=hide hb0
 have HV:=hide hv
 have HL:=hide hl
 have HFL:Hid ((layE bnd l).1=0→l.length≤1048576):=fun h=>by
  have hs:(shapeE bnd l).1=0:=by
   unfold layE at h
   by_cases h1:(shapeE bnd l).1=0
   ·exact h1
   ·rw [if_pos h1] at h;exact absurd h h1
  exact (shape_few hs).1
 have HOPEN:Hid ((layE bnd l).1=0→∀ k,k<l.length→((nthI l k).1=55∨(nthI l k).1=56∨(nthI l k).1=248∨endsB (nthI l k).1=true)→∃ fs f,cutTo l k=fs++[f]∧(endsB (nthI l k).1=true→∃ bs b',f.2.2.2.1=bs++[b'])):=fun h k hk ho=>cut_open h hk ho
 have HRET:Hid (∀ (a':Act) (Z:World) (fv:Value),slot a'.tmps 2=fv→slot a'.tmps 3=.pointer (some ⟨w.heap.size+1,0,none⟩)→a'.defers=[]→Z.heap[w.heap.size+1]?=some (.cells #[.int .i64 (layE bnd l).1,.int .i64 ((layE bnd l).2:Int)] 33 (0,0))→Below w.heap.size w Z→((layE bnd l).1≠0∧fv=.slice none 0 0∨(layE bnd l).1=0∧FuncsAt Z w.heap.size fv (cutTo l l.length)) →
   bodyPost Tryz.prog Tryz.f6 (fun e w'=>CutQ w w' bnd l e) .ret a' Z):=by
  intro a' Z fv q2 q3 q4 q6 q7 q8
  refine bodyPost_ret (v:=.tuple #[fv,.agg #[.int .i64 (layE bnd l).1,.int .i64 ((layE bnd l).2:Int)]]) ?_ q4 ⟨fv,rfl,q7,q8⟩
  have r6:=run_loadVar_mid (P:=Tryz.prog) Z (w.heap.size+1) 0 33 [.int .i64 (layE bnd l).1,.int .i64 ((layE bnd l).2:Int)] _ (range_of_block q6) Tryz.underlying33 rfl (by kernel_rfl)
  have hG2:a'.tmps.getD 2 undef=fv:=q2
  have hG3:a'.tmps.getD 3 undef=.pointer (some ⟨w.heap.size+1,0,none⟩):=q3
  simp only [results,Tryz.results6,List.mapM_toArray,List.mapM_cons,List.mapM_nil,hG2,hG3,asAddr,Sem.run_bind,Sem.run_pure,Result.andThen_ok,bind_assoc,pure_bind,Sem.run_map,map_pure,r6]
  rfl
 generalize hQQ:(fun (e:Ending) (w':World)=>CutQ w w' bnd l e)=QQ at *
 clear hQQ
 generalize layE bnd l=L at *
 obtain⟨e1,e2⟩:=L
 unfold modV at *
 clear hb0 hv hok hl
 go_enter Tryz.func6,Tryz.ntmps6
 go_wp2_with fail
 generalize ((w.alloc (.cells #[.int .u32 gen,.int .u32 bnd,.slice a n c] 25)).alloc (.cells #[.int .i64 0,.int .i64 0] 33))=W0 at *
 refine hC.mono ?_
 rintro e w1 ⟨rfl,hb1⟩
 have kl:=HLT.out
 have kw:W0.heap.size≤w1.heap.size:=hb1.size
 have hb2:Below W0.heap.size W0 (w1.alloc (.cells #[.int .i64 e1,.int .i64 e2] 33)):=hb1.alloc hb1.size _
 have HB2:=hide hb2
 have HSN:=hide (heap_alloc_new w1 (.cells #[.int .i64 e1,.int .i64 e2] 33))
 have HSX:Hid (w1.heap.size<(w1.alloc (.cells #[.int .i64 e1,.int .i64 e2] 33)).heap.size):=by show _<_;simp
 clear hC hb1 hb2
 by_cases hE0:e1=0
 ·subst hE0
  have hlen:=HFL.out rfl
  have hn1:n≤1048576:=by rw [← HL.out];exact hlen
  have HOP2:Hid (∀ k,k<l.length→((nthI l k).1=55∨(nthI l k).1=56∨(nthI l k).1=248∨endsB (nthI l k).1=true)→∃ fs f,cutTo l k=fs++[f]∧(endsB (nthI l k).1=true→∃ bs b',f.2.2.2.1=bs++[b'])):=HOPEN.out rfl
  clear hlen HFL HOPEN
  go_wp2_with fail
  generalize w1.alloc (.cells #[.int .i64 0,.int .i64 e2] 33)=W1 at *
  generalize w1.heap.size=S at *
  have hsx:=HSX.out
  have HBW1:=hide (HB0.out.trans (HB2.out.mono HB0.out.size))
  have hw0:w.heap.size+1<S:=by omega
  go_loopw [5,6] (fun x i wr=>∃ (k:Nat) (fv:Value),k≤n∧i=.int .i64 k∧fv=x∧FuncsAt wr W1.heap.size fv (cutTo l k)∧Below W1.heap.size W1 wr) (fun _ i _=>n - (intOf i).toNat)
  case atStart=>exact⟨0,_,by omega,rfl,rfl,FuncsAt.nil _ _,Below.refl _ _⟩
  case round =>
   obtain⟨k,fv,hk,rfl,hxv,hF,hbr⟩:=hrel
   subst hxv
   have HF:=hide hF
   have HBR:=hide hbr
   have HBW:=hide (HBW1.out.trans (hbr.mono HBW1.out.size))
   have hsr:W1.heap.size≤wr.heap.size:=hbr.size
   have m2:wr.cell? ⟨w.heap.size,2,none⟩=some (.slice a n c):=(World.cell?_of_block (a:=⟨w.heap.size,2,none⟩) ((hbr.block w.heap.size (by omega)).trans (HB2.out.block w.heap.size (by omega)))).trans ((one_block HMB.out).1 2)
   have hwr:w.heap.size<wr.heap.size:=by omega
   by_cases hlt:k<n
   ·have hki:(k:Int)<(n:Int):=by omega
    have hk0:(0:Int)≤(k:Int):=by omega
    have hkl:k<l.length:=by rw [HL.out];exact hlt
    have HLT2:=hide hlt
    obtain⟨g1,o1,aj,cj,nj,ha,hg1,p1,p2,p3,p4,p5,p6,p7⟩:=HV.out.below HBW.out k hkl
    have HXN:=hide (heap_alloc_new wr (.cells #[.int .u16 (nthI l k).1,.int .u32 (nthI l k).2.1,.int .u32 (nthI l k).2.2.1,.slice aj nj cj] 63))
    have HXS:Hid ((wr.alloc (.cells #[.int .u16 (nthI l k).1,.int .u32 (nthI l k).2.1,.int .u32 (nthI l k).2.2.1,.slice aj nj cj] 63)).heap.size=wr.heap.size+1):=by show _=_;simp
    have HXB:=hide ((Below.refl wr.heap.size wr).alloc (Nat.le_refl _) (.cells #[.int .u16 (nthI l k).1,.int .u32 (nthI l k).2.1,.int .u32 (nthI l k).2.2.1,.slice aj nj cj] 63))
    have hsmall:=cutTo_small l k
    subst ha
    clear p5 p6 p7 hbr hF
    generalize hop:(nthI l k).1=op at *
    generalize hty:(nthI l k).2.1=ty at *
    generalize hid:(nthI l k).2.2.1=id at *
    have HID:=hide hid
    have HOP:=hide hop
    clear hty hid hop
    by_cases h54:op=54
    ·subst h54
     have HEB:=hide (show endsB 54=false by decide)
     have HCT:=hide (cut_54 HOP.out)
     rw [HID.out] at HCT
     obtain⟨cs,hown,hpush⟩:=HF.out.row
     obtain⟨xm,cm,hfv⟩:=HF.out.slice
     have hmk:(cutTo l k).length≤k:=hsmall.1
     generalize hcut:cutTo l k=CT at *
     generalize hm:CT.length=m at *
     have HM:=hide hm
     obtain⟨i0,hi,hz0,hz1,hz2⟩:=info_parts FuncI.info
     have HOB:Hid (∀ g,fv.ownBlock=some g→W1.heap.size≤g∧g<wr.heap.size):=fun g e=>hown.lt g e
     have N0:Below wr.heap.size wr ((wr.alloc (.cells #[.int .u16 54,.int .u32 ty,.int .u32 id,.slice aj nj cj] 63)).alloc (.cells #[.int .u32 id,.int .i64 k,.slice none 0 0,.slice none 0 0,.int .i64 0] 29)):=HXB.out.alloc (by rw [HXS.out];omega) _
     have N1:Hid (((wr.alloc (.cells #[.int .u16 54,.int .u32 ty,.int .u32 id,.slice aj nj cj] 63)).alloc (.cells #[.int .u32 id,.int .i64 k,.slice none 0 0,.slice none 0 0,.int .i64 0] 29)).ownsRow W1.heap.size 29 5 fv m cs):=own_below hown N0
     have N2:Hid (∀ (j:Nat) (u:Value),([.int .u32 id,.int .i64 k,.slice none 0 0,.slice none 0 0,.int .i64 0]:List Value)[j]?=some u→((wr.alloc (.cells #[.int .u16 54,.int .u32 ty,.int .u32 id,.slice aj nj cj] 63)).alloc (.cells #[.int .u32 id,.int .i64 k,.slice none 0 0,.slice none 0 0,.int .i64 0] 29)).cell? ((⟨wr.heap.size+1,0,none⟩:Addr).add j)=some u):=World.news_of_block (cs:=#[.int .u32 id,.int .i64 k,.slice none 0 0,.slice none 0 0,.int .i64 0]) (t:=29) (fr:=(0,0)) (by have:=heap_alloc_new (wr.alloc (.cells #[.int .u16 54,.int .u32 ty,.int .u32 id,.slice aj nj cj] 63)) (.cells #[.int .u32 id,.int .i64 k,.slice none 0 0,.slice none 0 0,.int .i64 0] 29);rw [HXS.out] at this;exact this)
     have N3:Hid (∀ u:Value,u∈([.int .u32 id,.int .i64 k,.slice none 0 0,.slice none 0 0,.int .i64 0]:List Value)→u.oneCell'=true):=by intro u hu;simp at hu;rcases hu with rfl | rfl | rfl | rfl | rfl <;> rfl
     have N6:Hid (W1.heap.size≤((wr.alloc (.cells #[.int .u16 54,.int .u32 ty,.int .u32 id,.slice aj nj cj] 63)).alloc (.cells #[.int .u32 id,.int .i64 k,.slice none 0 0,.slice none 0 0,.int .i64 0] 29)).heap.size):=Nat.le_trans hsr N0.size
     have HSY:Hid (((wr.alloc (.cells #[.int .u16 54,.int .u32 ty,.int .u32 id,.slice aj nj cj] 63)).alloc (.cells #[.int .u32 id,.int .i64 k,.slice none 0 0,.slice none 0 0,.int .i64 0] 29)).heap.size=wr.heap.size+2):=by show _=_;rw [World.size_alloc,HXS.out]
     have HX0:Hid (((wr.alloc (.cells #[.int .u16 54,.int .u32 ty,.int .u32 id,.slice aj nj cj] 63)).alloc (.cells #[.int .u32 id,.int .i64 k,.slice none 0 0,.slice none 0 0,.int .i64 0] 29)).cell? ⟨wr.heap.size,0,none⟩=some (.int .u16 54)):=(World.cell?_of_block (a:=⟨wr.heap.size,0,none⟩) (Below.heap_alloc _ _ _ (by show wr.heap.size<_;rw [HXS.out];omega))).trans ((one_block HXN.out).1 0)
     have HN0:=hide N0
     have HPUSH:=hide hpush
     subst hfv
     clear hown hpush N0 hm hcut hsmall
     go_wp2_with (at_builtin;refine wpList_append_lies _ rfl (.tmp 33) (.tmp 38) 30 rfl W1.heap.size 29 i0 (.agg #[.int .u32 0,.int .i64 0,.slice none 0 0,.slice none 0 0,.int .i64 0]) 5 72 Tryz.underlying30 hi hz0 hz1 hz2 rfl (by decide) (.slice xm m cm) m cs rfl N1.out ⟨wr.heap.size+1,0,none⟩ 1 1 [.int .u32 id,.int .i64 k,.slice none 0 0,.slice none 0 0,.int .i64 0] rfl rfl N2.out N3.out (by decide) (by unfold maxLen;omega) (by omega) N6.out _ rfl ?_)
     intro g7 cap7 w7 hown7 hgr7 hat7 hlt7
     have hC7:wr.grownBy w7 (Value.slice xm m cm).ownBlock:=grown_trans7L (grown_after ⟨rfl,rfl,rfl,Nat.le_refl _,fun _ _ _=>rfl⟩ HN0.out) hgr7
     have x0:=hgr7.cell HX0.out (fun e=>by have h9:wr.heap.size<wr.heap.size:=(HOB.out wr.heap.size e.symm).2;omega)
     have hx7:wr.heap.size<w7.heap.size:=Nat.lt_of_lt_of_le (by rw [HSY.out];omega) hgr7.size
     have HF7:Hid (FuncsAt w7 W1.heap.size (.slice (some ⟨g7,0,none⟩) (m+1) cap7) (cutTo l (k+1))):=by
      rw [HCT.out]
      refine HPUSH.out w7 (.slice (some ⟨g7,0,none⟩) (m+1) cap7) id k hC7 ?_ hown7
      rcases hat7 with h | h
      ·exact .inl h.symm
      ·refine .inr fun g e=>?_
       have e2:g7=g:=by simpa [Value.ownBlock] using e
       have h3:g7=wr.heap.size+2:=h
       omega
     have HB7:=hide (below_grown HBR.out hC7 (fun g e=>(HOB.out g e).1))
     have m2:=HBR.out
     clear m2 hown7 hgr7 hat7 hC7 N1 N2 N3 N6 HN0 HX0 HPUSH p1 p2 p3 p4 hi hz0 hz1 hz2
     go_wp2_with fail
     refine (refEnds_any 54 _).mono ?_
     rintro e w9 ⟨rfl,rfl⟩
     have he9:endsB 54=false:=HEB.out
     go_wp2_with fail
     go_roundw
     case rel=>exact⟨k+1,_,by omega,by go_num,rfl,HF7.out,HB7.out⟩
     case measure=>simp [intOf];omega
    ·by_cases h55:op=55
     ·subst h55
      have HEB:=hide (show endsB 55=false by decide)
      have hopn:=HOP2.out k hkl (by rw [HOP.out];exact .inl rfl)
      rw [HOP.out] at hopn
      obtain⟨fs,f,hcut,hblk⟩:=hopn
      have hsm:=cutTo_last hcut
      rw [hcut] at HF
      obtain⟨F,c',P,Q,hL⟩:=HF.out.last
      have hfv:=hL.val
      have hFlt:=hL.lt
      have hFlo:=hL.low
      have HCT:=hide (cut_55 HOP.out hcut)
      have hFne:=hL.pF
      have hown:=hL.par
      have dF:=(HXB.out.cell (p:=⟨F,fs.length * 5+2,none⟩) hFlt).trans hL.c2
      have HL2:=hide hL
      obtain⟨i0,hi,hz0,hz1,hz2⟩:=info_parts IntL.info
      have HOB:Hid (∀ g,P.ownBlock=some g→W1.heap.size≤g∧g<wr.heap.size):=fun g e=>hown.lt g e
      have N0:Below wr.heap.size wr ((wr.alloc (.cells #[.int .u16 55,.int .u32 ty,.int .u32 id,.slice aj nj cj] 63)).alloc (.cells #[.int .i64 k] 3)):=HXB.out.alloc (by rw [HXS.out];omega) _
      have N1:Hid (((wr.alloc (.cells #[.int .u16 55,.int .u32 ty,.int .u32 id,.slice aj nj cj] 63)).alloc (.cells #[.int .i64 k] 3)).ownsRow W1.heap.size 3 1 P f.2.2.1.length (f.2.2.1.map (Value.int .i64))):=own_below hown N0
      have N2:Hid (∀ (j:Nat) (u:Value),([.int .i64 k]:List Value)[j]?=some u→((wr.alloc (.cells #[.int .u16 55,.int .u32 ty,.int .u32 id,.slice aj nj cj] 63)).alloc (.cells #[.int .i64 k] 3)).cell? ((⟨wr.heap.size+1,0,none⟩:Addr).add j)=some u):=World.news_of_block (cs:=#[.int .i64 k]) (t:=3) (fr:=(0,0)) (by have:=heap_alloc_new (wr.alloc (.cells #[.int .u16 55,.int .u32 ty,.int .u32 id,.slice aj nj cj] 63)) (.cells #[.int .i64 k] 3);rw [HXS.out] at this;exact this)
      have N3:Hid (∀ u:Value,u∈([.int .i64 k]:List Value)→u.oneCell'=true):=by intro u hu;simp at hu;subst hu;rfl
      have N6:Hid (W1.heap.size≤((wr.alloc (.cells #[.int .u16 55,.int .u32 ty,.int .u32 id,.slice aj nj cj] 63)).alloc (.cells #[.int .i64 k] 3)).heap.size):=Nat.le_trans hsr N0.size
      have HSY:Hid (((wr.alloc (.cells #[.int .u16 55,.int .u32 ty,.int .u32 id,.slice aj nj cj] 63)).alloc (.cells #[.int .i64 k] 3)).heap.size=wr.heap.size+2):=by show _=_;rw [World.size_alloc,HXS.out]
      have HX0:Hid (((wr.alloc (.cells #[.int .u16 55,.int .u32 ty,.int .u32 id,.slice aj nj cj] 63)).alloc (.cells #[.int .i64 k] 3)).cell? ⟨wr.heap.size,0,none⟩=some (.int .u16 55)):=(World.cell?_of_block (a:=⟨wr.heap.size,0,none⟩) (Below.heap_alloc _ _ _ (by show wr.heap.size<_;rw [HXS.out];omega))).trans ((one_block HXN.out).1 0)
      have hpl:f.2.2.1.length≤n:=by have:=hsm.2.1;omega
      have hfl:fs.length<n:=by omega
      have HN0:=hide N0
      subst hfv
      clear hown N0 hcut hblk hL hsmall
      generalize hm:fs.length=m at *
      have HM:=hide hm
      have hm0:(0:Int)≤(m:Int):=by omega
      have hm1:(m:Int)<((m+1:Nat):Int):=by omega
      have hm2:((m+1:Nat):Int) - 1=(m:Int):=by omega
      have hm3:IntKind.i64.wrap (m:Int)=(m:Int):=by rw [IntKind.wrap_i64];omega
      clear hm
      go_wp2_with (at_builtin;refine wpList_append_lies _ rfl (.tmp 49) (.tmp 51) 26 rfl W1.heap.size 3 i0 (.int .i64 0) 1 8 Tryz.underlying26 hi hz0 hz1 hz2 rfl (by decide) P f.2.2.1.length (f.2.2.1.map (Value.int .i64)) rfl N1.out ⟨wr.heap.size+1,0,none⟩ 1 1 [.int .i64 k] rfl rfl N2.out N3.out (by decide) (by unfold maxLen;omega) (by omega) N6.out _ rfl ?_)
      intro g7 cap7 w7 hown7 hgr7 hat7 hlt7
      have hC7:wr.grownBy w7 P.ownBlock:=grown_trans7L (grown_after ⟨rfl,rfl,rfl,Nat.le_refl _,fun _ _ _=>rfl⟩ HN0.out) hgr7
      have hFF:w7.heap[F]?=wr.heap[F]?:=hC7.block F hFlt (fun e=>hFne e.symm)
      have yF:w7.cell? ⟨F,m * 5+2,none⟩=some P:=(World.cell?_of_block hFF).trans (by rw [← HM.out];exact HL2.out.c2)
      have fF:w7.frozen? ⟨F,m * 5+2,none⟩=false:=(World.frozen?_of_block hFF).trans (HL2.out.frozen _)
      have hg8:=grown_cell w7 F (m * 5+2) (.slice (some ⟨g7,0,none⟩) (f.2.2.1.length+1) cap7)
      have x7:=hgr7.cell HX0.out (fun e=>by have h9:wr.heap.size<wr.heap.size:=(HOB.out wr.heap.size e.symm).2;omega)
      have x0:=hg8.cell x7 (fun e=>by simp at e;omega)
      have hx7:wr.heap.size<w7.heap.size:=Nat.lt_of_lt_of_le (by rw [HSY.out];omega) hgr7.size
      have HF7:Hid (FuncsAt (w7.setCell ⟨F,m * 5+2,none⟩ (.slice (some ⟨g7,0,none⟩) (f.2.2.1.length+1) cap7)) W1.heap.size (.slice (some ⟨F,0,none⟩) (m+1) c') (cutTo l (k+1))):=by
       rw [HCT.out]
       have h:=HL2.out.putP w7 (.slice (some ⟨g7,0,none⟩) (f.2.2.1.length+1) cap7) (f.2.2.1++[(k:Int)]) hC7 ?_ (by rw [List.length_append,List.map_append];exact hown7)
       ·rw [HM.out] at h;exact h
       rcases hat7 with h | h
       ·exact .inl h.symm
       ·refine .inr fun g e=>?_
        have e2:g7=g:=by simpa [Value.ownBlock] using e
        have h3:g7=wr.heap.size+2:=h
        omega
      have HB7:=hide (below_grown (below_grown HBR.out hC7 (fun g e=>(HOB.out g e).1)) hg8 (fun g e=>by simp at e;omega))
      clear hown7 hgr7 hat7 hC7 N1 N2 N3 N6 HN0 HX0 p1 p2 p3 p4 hi hz0 hz1 hz2 hFF dF hg8 x7
      go_wp2_with fail
      clear yF fF
      generalize w7.setCell ⟨F,m * 5+2,none⟩ (.slice (some ⟨g7,0,none⟩) (f.2.2.1.length+1) cap7)=Z at *
      refine (refEnds_any 55 _).mono ?_
      rintro e w9 ⟨rfl,rfl⟩
      have he9:endsB 55=false:=HEB.out
      go_wp2_with fail
      go_roundw
      case rel=>exact⟨k+1,_,by omega,by go_num,rfl,HF7.out,HB7.out⟩
      case measure=>simp [intOf];omega
     ·by_cases h56:op=56
      ·subst h56
       have HEB:=hide (show endsB 56=false by decide)
       have hopn:=HOP2.out k hkl (by rw [HOP.out];exact .inr (.inl rfl))
       rw [HOP.out] at hopn
       obtain⟨fs,f,hcut,hblk⟩:=hopn
       have hsm:=cutTo_last hcut
       rw [hcut] at HF
       obtain⟨F,c',P,Q,hL⟩:=HF.out.last
       have hfv:=hL.val
       have hFlt:=hL.lt
       have hFlo:=hL.low
       have HCT:=hide (cut_56 HOP.out hcut)
       have HL2:=hide hL
       have yF:(wr.alloc (.cells #[.int .u16 56,.int .u32 ty,.int .u32 id,.slice aj nj cj] 63)).cell? ⟨F,fs.length * 5+4,none⟩=some (.int .i64 f.2.2.2.2):=(HXB.out.cell (p:=⟨F,fs.length * 5+4,none⟩) hFlt).trans hL.c4
       have fF:(wr.alloc (.cells #[.int .u16 56,.int .u32 ty,.int .u32 id,.slice aj nj cj] 63)).frozen? ⟨F,fs.length * 5+4,none⟩=false:=(World.frozen?_of_block (HXB.out.block F hFlt)).trans (hL.frozen _)
       have hfl:fs.length<n:=by omega
       have hg8:=grown_cell (wr.alloc (.cells #[.int .u16 56,.int .u32 ty,.int .u32 id,.slice aj nj cj] 63)) F (fs.length * 5+4) (.int .i64 k)
       have x0:=hg8.cell ((one_block HXN.out).1 0) (fun e=>by simp at e;omega)
       have hFX:F<(wr.alloc (.cells #[.int .u16 56,.int .u32 ty,.int .u32 id,.slice aj nj cj] 63)).heap.size:=by rw [HXS.out];omega
       have HF7:Hid (FuncsAt ((wr.alloc (.cells #[.int .u16 56,.int .u32 ty,.int .u32 id,.slice aj nj cj] 63)).setCell ⟨F,fs.length * 5+4,none⟩ (.int .i64 k)) W1.heap.size fv (cutTo l (k+1))):=by
        rw [HCT.out]
        exact (last_below HF.out hL HXB.out).putE k
       have HB7:=hide (below_grown (HBR.out.trans (HXB.out.mono HBR.out.size)) hg8 (fun g e=>by simp at e;omega))
       have hx7:wr.heap.size<(wr.alloc (.cells #[.int .u16 56,.int .u32 ty,.int .u32 id,.slice aj nj cj] 63)).heap.size:=by rw [HXS.out];omega
       subst hfv
       clear hcut hblk hL hsmall hg8 HL2
       generalize hm:fs.length=m at *
       have HM:=hide hm
       have hm0:(0:Int)≤(m:Int):=by omega
       have hm1:(m:Int)<((m+1:Nat):Int):=by omega
       have hm2:((m+1:Nat):Int) - 1=(m:Int):=by omega
       have hm3:IntKind.i64.wrap (m:Int)=(m:Int):=by rw [IntKind.wrap_i64];omega
       clear hm
       have hsw:=alloc_set5 wr (.cells #[.int .u16 56,.int .u32 ty,.int .u32 id,.slice aj nj cj] 63) F (m * 5+4) (.int .i64 k) hFlt
       have HSW:=hide hsw
       rw [← hsw] at x0
       clear hsw
       go_wp2_with fail
       clear yF fF p1 p2 p3 p4
       rw [HSW.out] at *
       generalize (wr.alloc (.cells #[.int .u16 56,.int .u32 ty,.int .u32 id,.slice aj nj cj] 63)).setCell ⟨F,m * 5+4,none⟩ (.int .i64 k)=Z at *
       refine (refEnds_any 56 _).mono ?_
       rintro e w9 ⟨rfl,rfl⟩
       have he9:endsB 56=false:=HEB.out
       go_wp2_with fail
       go_roundw
       case rel=>exact⟨k+1,_,by omega,by go_num,rfl,HF7.out,HB7.out⟩
       case measure=>simp [intOf];omega
      ·by_cases h248:op=248
       ·subst h248
        have HEB:=hide (show endsB 248=false by decide)
        have hopn:=HOP2.out k hkl (by rw [HOP.out];exact .inr (.inr (.inl rfl)))
        rw [HOP.out] at hopn
        obtain⟨fs,f,hcut,hblk⟩:=hopn
        have hsm:=cutTo_last hcut
        rw [hcut] at HF
        obtain⟨F,c',P,Q,hL⟩:=HF.out.last
        have hfv:=hL.val
        have hFlt:=hL.lt
        have hFlo:=hL.low
        have HCT:=hide (cut_248 HOP.out hcut)
        rw [HID.out] at HCT
        have HL0:Hid (LastF (wr.alloc (.cells #[.int .u16 248,.int .u32 ty,.int .u32 id,.slice aj nj cj] 63)) W1.heap.size fv fs f F c' P Q):=last_below HF.out hL HXB.out
        have HXQ:Hid (Q.ownBlock≠some wr.heap.size):=fun e=>by have:=(World.ownsRow.lt hL.blk _ e).2;omega
        have hbl:f.2.2.2.1.length≤n:=by have:=hsm.2.2;omega
        have hfl:fs.length<n:=by omega
        subst hfv
        clear hcut hblk hL hsmall
        have hm0:(0:Int)≤(fs.length:Int):=by omega
        have hm1:(fs.length:Int)<((fs.length+1:Nat):Int):=by omega
        have hm4:¬ ((fs.length:Int)+1≤(fs.length:Int)):=by omega
        have hm2:((fs.length+1:Nat):Int) - 1=(fs.length:Int):=by omega
        have hm3:IntKind.i64.wrap (fs.length:Int)=(fs.length:Int):=by rw [IntKind.wrap_i64];omega
        go_wp2_with fail
        have HX1:=hide ((one_block HXN.out).1)
        have HBX:=hide (HBR.out.trans (HXB.out.mono HBR.out.size))
        clear p1 p2 p3 p4 m2
        generalize wr.alloc (.cells #[.int .u16 248,.int .u32 ty,.int .u32 id,.slice aj nj cj] 63)=X at *
        have hL:=HL0.out
        have HL1:=hide hL
        have HOWN:=hide hL.blk
        have dF:=hL.c3
        have hFne:=hL.qF
        have hFX:=hL.lt
        obtain⟨i0,hi,hz0,hz1,hz2⟩:=info_parts BlockI.info
        have d0:=HX1.out 0
        have d2:=HX1.out 2
        have HOB:Hid (∀ g,Q.ownBlock=some g→W1.heap.size≤g∧g<X.heap.size):=fun g e=>HOWN.out.lt g e
        have LC:Hid (∀ w',X.grownBy w' Q.ownBlock→w'.cell? ⟨F,fs.length * 5+3,none⟩=some Q∧w'.cell? ⟨wr.heap.size,0,none⟩=some (.int .u16 248)∧w'.cell? ⟨wr.heap.size,2,none⟩=some (.int .u32 id)):=fun w' hg =>
         ⟨hg.cell dF (fun e=>hFne e.symm),hg.cell d0 (fun e=>HXQ.out e.symm),hg.cell d2 (fun e=>HXQ.out e.symm)⟩
        clear hL
        have hC0:X.grownBy X.drew Q.ownBlock:=⟨rfl,rfl,rfl,Nat.le_refl _,fun _ _ _=>rfl⟩
        have hmix:Tryz.prog.follows .mixedOrders=true:=by kernel_rfl
        refine (wpIn_wide (n:=0)).1 ?_
        refine wpIn_normal (wpIn_region_any hmix (wpAnyE_sound (C:=fun w'=>X.grownBy w' Q.ownBlock) (E:=fun i=>i==15) _ _ _ _ ?_))
        change wpAnyE _ _ _ _ _ _ _ _ _ _ _ (World.drew _)
        refine wpAnyE_takeD (i:=0) (some 66) (v:=.slice (some ⟨F,0,none⟩) (fs.length+1) c') (fun _=>trivial) (by kernel_rfl) rfl rfl (by kernel_rfl) (by kernel_rfl) (by kernel_rfl) (by kernel_rfl) (fun _ _ _ h=>by cases h.1) hC0 (Or.inl ⟨by rfl,fun w' hC=>by obtain⟨eF,e0,e2'⟩:=LC.out w' hC;clear hC;go_simp⟩) ?_
        simp only [Act.put,ap1,ap2,ap3]
        refine wpAnyE_takeD (i:=1) (some 67) (v:=.int .i64 (fs.length:Int)) (fun _=>trivial) (by kernel_rfl) rfl rfl (by kernel_rfl) (by kernel_rfl) (by kernel_rfl) (by kernel_rfl) (fun _ _ _ h=>by cases h.1) hC0 (Or.inl ⟨by rfl,fun w' hC=>by obtain⟨eF,e0,e2'⟩:=LC.out w' hC;clear hC;go_simp⟩) ?_
        simp only [Act.put,ap1,ap2,ap3]
        refine wpAnyE_takeD (i:=2) (some 68) (v:=.slice (some ⟨F,0,none⟩) (fs.length+1) c') (fun _=>trivial) (by kernel_rfl) rfl rfl (by kernel_rfl) (by kernel_rfl) (by kernel_rfl) (by kernel_rfl) (fun _ _ _ h=>by cases h.1) hC0 (Or.inl ⟨by rfl,fun w' hC=>by obtain⟨eF,e0,e2'⟩:=LC.out w' hC;clear hC;go_simp⟩) ?_
        simp only [Act.put,ap1,ap2,ap3]
        refine wpAnyE_takeD (i:=3) (some 69) (v:=.int .i64 (fs.length:Int)) (fun _=>trivial) (by kernel_rfl) rfl rfl (by kernel_rfl) (by kernel_rfl) (by kernel_rfl) (by kernel_rfl) (fun _ _ _ h=>by cases h.1) hC0 (Or.inl ⟨by rfl,fun w' hC=>by obtain⟨eF,e0,e2'⟩:=LC.out w' hC;clear hC;go_simp⟩) ?_
        simp only [Act.put,ap1,ap2,ap3]
        refine wpAnyE_takeD (i:=4) (some 70) (v:=.pointer (some ⟨F,fs.length * 5,none⟩)) (fun _=>trivial) (by kernel_rfl) rfl rfl (by kernel_rfl) (by kernel_rfl) (by kernel_rfl) (by kernel_rfl) (fun _ _ _ h=>by cases h.1) hC0 (Or.inl ⟨by rfl,fun w' hC=>by obtain⟨eF,e0,e2'⟩:=LC.out w' hC;clear hC;go_simp⟩) ?_
        simp only [Act.put,ap1,ap2,ap3]
        refine wpAnyE_takeD (i:=5) (some 71) (v:=.pointer (some ⟨F,fs.length * 5+3,none⟩)) (fun _=>trivial) (by kernel_rfl) rfl rfl (by kernel_rfl) (by kernel_rfl) (by kernel_rfl) (by kernel_rfl) (fun _ _ _ h=>by cases h.1) hC0 (Or.inl ⟨by rfl,fun w' hC=>by obtain⟨eF,e0,e2'⟩:=LC.out w' hC;clear hC;go_simp⟩) ?_
        simp only [Act.put,ap1,ap2,ap3]
        refine wpAnyE_takeD (i:=6) (some 72) (v:=Q) (fun _=>trivial) (by kernel_rfl) rfl rfl (by kernel_rfl) (by kernel_rfl) (by kernel_rfl) (by kernel_rfl) (fun _ _ _ h=>by cases h.1) hC0 (Or.inl ⟨by rfl,fun w' hC=>by obtain⟨eF,e0,e2'⟩:=LC.out w' hC;clear hC;go_simp⟩) ?_
        simp only [Act.put,ap1,ap2,ap3]
        refine wpAnyE_takeD (i:=7) (some 73) (v:=.pointer (some ⟨wr.heap.size,2,none⟩)) (fun _=>trivial) (by kernel_rfl) rfl rfl (by kernel_rfl) (by kernel_rfl) (by kernel_rfl) (by kernel_rfl) (fun _ _ _ h=>by cases h.1) hC0 (Or.inl ⟨by rfl,fun w' hC=>by obtain⟨eF,e0,e2'⟩:=LC.out w' hC;clear hC;go_simp⟩) ?_
        simp only [Act.put,ap1,ap2,ap3]
        refine wpAnyE_takeD (i:=8) (some 74) (v:=.int .u32 id) (fun _=>trivial) (by kernel_rfl) rfl rfl (by kernel_rfl) (by kernel_rfl) (by kernel_rfl) (by kernel_rfl) (fun _ _ _ h=>by cases h.1) hC0 (Or.inl ⟨by rfl,fun w' hC=>by obtain⟨eF,e0,e2'⟩:=LC.out w' hC;clear hC;go_simp⟩) ?_
        simp only [Act.put,ap1,ap2,ap3]
        refine wpAnyE_takeD (i:=9) (some 75) (v:=.int .i64 (k:Int)) (fun _=>trivial) (by kernel_rfl) rfl rfl (by kernel_rfl) (by kernel_rfl) (by kernel_rfl) (by kernel_rfl) (fun _ _ _ h=>by cases h.1) hC0 (Or.inl ⟨by rfl,fun w' hC=>by obtain⟨eF,e0,e2'⟩:=LC.out w' hC;clear hC;go_simp⟩) ?_
        simp only [Act.put,ap1,ap2,ap3]
        refine wpAnyE_takeD (i:=10) (some 76) (v:=.agg #[.int .u32 id,.int .i64 k,.int .i64 0]) (fun _=>trivial) (by kernel_rfl) rfl rfl (by kernel_rfl) (by kernel_rfl) (by kernel_rfl) (by kernel_rfl) (fun _ _ _ h=>by cases h.1) hC0 (Or.inl ⟨by rfl,fun w' hC=>by obtain⟨eF,e0,e2'⟩:=LC.out w' hC;clear hC;go_simp⟩) ?_
        simp only [Act.put,ap1,ap2,ap3]
        refine wpAnyE_ready (rs:=[11]) (by kernel_rfl) (by simp) ?_
        refine AllE.cons rfl (fun K hK=>?_) AllE.nil
        go_simp
        have hC1:X.grownBy (X.drew.alloc (.cells #[.int .u32 id,.int .i64 k,.int .i64 0] 65)) Q.ownBlock:=grown_after hC0 (Below.refl _ _ |>.alloc (Nat.le_refl _) _)
        refine hK _ _ (.inr hC1) ?_
        clear hK K hC0
        have N1:Hid ((X.drew.alloc (.cells #[.int .u32 id,.int .i64 k,.int .i64 0] 65)).ownsRow W1.heap.size 65 3 Q f.2.2.2.1.length (f.2.2.2.1.flatMap bC)):=own_below HOWN.out ((Below.refl _ X).drew.alloc (by simp) _)
        have N2:Hid (∀ (j:Nat) (u:Value),([.int .u32 id,.int .i64 k,.int .i64 0]:List Value)[j]?=some u→(X.drew.alloc (.cells #[.int .u32 id,.int .i64 k,.int .i64 0] 65)).cell? ((⟨X.heap.size,0,none⟩:Addr).add j)=some u):=World.news_of_block (cs:=#[.int .u32 id,.int .i64 k,.int .i64 0]) (t:=65) (fr:=(0,0)) (heap_alloc_new X.drew _)
        have N3:Hid (∀ u:Value,u∈([.int .u32 id,.int .i64 k,.int .i64 0]:List Value)→u.oneCell'=true):=by intro u hu;simp at hu;rcases hu with rfl | rfl | rfl <;> rfl
        have N6:Hid (W1.heap.size≤(X.drew.alloc (.cells #[.int .u32 id,.int .i64 k,.int .i64 0] 65)).heap.size):=by show _≤(World.alloc _ _).heap.size;rw [World.size_alloc];show _≤X.heap.size+1;have:=HXS.out;omega
        have HSY:Hid ((X.drew.alloc (.cells #[.int .u32 id,.int .i64 k,.int .i64 0] 65)).heap.size=X.heap.size+1):=by show (World.alloc _ _).heap.size=_;rw [World.size_alloc];rfl
        refine wpAnyE_ready (rs:=[12]) (by kernel_rfl) (by simp) ?_
        refine AllE.cons rfl (fun K hK=>?_) AllE.nil
        refine stepAny_lies _ (fun _=>trivial) rfl (.tmp 72) (.tmp 77) 27 rfl W1.heap.size 65 i0 (.agg #[.int .u32 0,.int .i64 0,.int .i64 0]) 3 24 Tryz.underlying27 hi hz0 hz1 hz2 rfl (by decide) Q f.2.2.2.1.length (f.2.2.2.1.flatMap bC) rfl N1.out ⟨X.heap.size,0,none⟩ 1 1 [.int .u32 id,.int .i64 k,.int .i64 0] rfl rfl N2.out N3.out (by decide) (by unfold maxLen;omega) (by omega) N6.out ?_
        intro g7 cap7 w7 hown7 hgr7 hat7
        have hC7:X.grownBy w7 Q.ownBlock:=grown_trans7L hC1 hgr7
        refine hK _ _ (.inr hC7) ?_
        clear hK K
        refine wpAnyE_ready (rs:=[13]) (by kernel_rfl) (by simp) ?_
        refine AllE.cons rfl (fun K hK=>?_) AllE.nil
        go_simp
        refine hK _ _ (.inr hC7) ?_
        clear hK K
        refine wpAnyE_ready (rs:=[14]) (by kernel_rfl) (by simp) ?_
        refine AllE.cons rfl (fun K hK=>?_) AllE.nil
        go_simp
        refine hK _ _ (.inr hC7) ?_
        clear hK K
        have hfresh:Value.ownBlock (.slice (some ⟨g7,0,none⟩) (f.2.2.2.1.length+1) cap7)=Q.ownBlock∨∀ g,Value.ownBlock (.slice (some ⟨g7,0,none⟩) (f.2.2.2.1.length+1) cap7)=some g→X.heap.size≤g:=by
         rcases hat7 with h | h
         ·exact .inl h.symm
         ·refine .inr fun g e=>?_
          have e2:g7=g:=by simpa [Value.ownBlock] using e
          have:=h.trans HSY.out
          omega
        have hFF:w7.heap[F]?=X.heap[F]?:=hC7.block F hFX (fun e=>hFne e.symm)
        have yF:w7.cell? ⟨F,fs.length * 5+3,none⟩=some Q:=(World.cell?_of_block hFF).trans dF
        have fF:w7.frozen? ⟨F,fs.length * 5+3,none⟩=false:=(World.frozen?_of_block hFF).trans (HL1.out.frozen _)
        have hg8:=grown_cell w7 F (fs.length * 5+3) (.slice (some ⟨g7,0,none⟩) (f.2.2.2.1.length+1) cap7)
        have x0:=hg8.cell (LC.out w7 hC7).2.1 (fun e=>by simp at e;omega)
        have hx7:wr.heap.size<w7.heap.size:=by have:=hC7.size;have:=HXS.out;omega
        have HF7:Hid (FuncsAt (w7.setCell ⟨F,fs.length * 5+3,none⟩ (.slice (some ⟨g7,0,none⟩) (f.2.2.2.1.length+1) cap7)) W1.heap.size (.slice (some ⟨F,0,none⟩) (fs.length+1) c') (cutTo l (k+1))):=by
         rw [HCT.out]
         exact HL1.out.putQ w7 (.slice (some ⟨g7,0,none⟩) (f.2.2.2.1.length+1) cap7) (f.2.2.2.1++[(id,(k:Int),0)]) hC7 hfresh (by rw [List.length_append,List.flatMap_append];exact hown7)
        have HB7:=hide (below_grown (below_grown HBX.out hC7 (fun g e=>(HOB.out g e).1)) hg8 (fun g e=>by simp at e;omega))
        refine wpAnyE_ready (rs:=[15]) (by kernel_rfl) (by simp) ?_
        refine AllE.cons rfl (fun K hK=>?_) AllE.nil
        go_simp
        refine hK _ _ (.inl rfl) ?_
        clear hK K hC7 yF fF hFF hown7 hgr7 hat7 N1 N2 N3 N6 hC1 hfresh d0 d2 dF LC hg8
        refine wpAnyE_done (by kernel_rfl) ⟨rfl,?_⟩ _
        generalize w7.setCell ⟨F,fs.length * 5+3,none⟩ (.slice (some ⟨g7,0,none⟩) (f.2.2.2.1.length+1) cap7)=Z at *
        rw [then_normalL]
        go_wp2_with fail
        refine (refEnds_any 248 _).mono ?_
        rintro e w9 ⟨rfl,rfl⟩
        have he9:endsB 248=false:=HEB.out
        go_wp2_with fail
        go_roundw
        case rel=>exact⟨k+1,_,by omega,by go_num,rfl,HF7.out,HB7.out⟩
        case measure=>simp [intOf];omega
       ·have NE54:(op==54)=false:=by simpa using h54
        have NE55:(op==55)=false:=by simpa using h55
        have NE56:(op==56)=false:=by simpa using h56
        have NE248:(op==248)=false:=by simpa using h248
        by_cases hends:endsB op=true
        ·have hendsB:=hends
         have hopn:=HOP2.out k hkl (by rw [HOP.out];exact .inr (.inr (.inr hends)))
         rw [HOP.out] at hopn
         obtain⟨fs,f,hcut,hblk⟩:=hopn
         have hsm:=cutTo_last hcut
         rw [hcut] at HF
         obtain⟨F,c',P,Q,hL⟩:=HF.out.last
         have hfv:=hL.val
         have hFlt:=hL.lt
         have hFlo:=hL.low
         obtain⟨bs,b',hbs⟩:=hblk hends
         have HCT:=hide (cut_end (by rw [HOP.out];exact hends) hcut)
         have HL0:Hid (LastF (wr.alloc (.cells #[.int .u16 op,.int .u32 ty,.int .u32 id,.slice aj nj cj] 63)) W1.heap.size fv fs f F c' P Q):=last_below HF.out hL HXB.out
         have HXQ:Hid (Q.ownBlock≠some wr.heap.size):=fun e=>by have:=(World.ownsRow.lt hL.blk _ e).2;omega
         have hbl:f.2.2.2.1.length≤n:=by have:=hsm.2.2;omega
         have hfl:fs.length<n:=by omega
         have HTO:Hid (withTo ((k+1:Nat):Int) f=(f.1,f.2.1,f.2.2.1,bs++[(b'.1,b'.2.1,((k+1:Nat):Int))],f.2.2.2.2)):=by
          show _=_
          unfold withTo;rw [hbs,endLast_snoc]
         subst hfv
         clear hcut hblk hL hsmall
         have hm0:(0:Int)≤(fs.length:Int):=by omega
         have hm1:(fs.length:Int)<((fs.length+1:Nat):Int):=by omega
         have hm4:¬ ((fs.length:Int)+1≤(fs.length:Int)):=by omega
         have hm2:((fs.length+1:Nat):Int) - 1=(fs.length:Int):=by omega
         have hm3:IntKind.i64.wrap (fs.length:Int)=(fs.length:Int):=by rw [IntKind.wrap_i64];omega
         go_wp2_with fail
         refine (refEnds_any op _).mono ?_
         rintro e w9 ⟨rfl,rfl⟩
         rw [hends]
         go_wp2_with fail
         have HX1:=hide ((one_block HXN.out).1)
         have HBX:=hide (HBR.out.trans (HXB.out.mono HBR.out.size))
         clear p1 p2 p3 p4 m2
         generalize wr.alloc (.cells #[.int .u16 op,.int .u32 ty,.int .u32 id,.slice aj nj cj] 63)=X at *
         have hL:=HL0.out
         have dF:=hL.c3
         have hqb:=hL.blk
         rw [hbs] at hqb
         obtain⟨gq,cq,rfl,hq1,hq2,hq3,hq4,hq5⟩:=own_form hqb (by simp)
         have HL1:=hide hL
         have zc:=hq5 (bs.length * 3+2) (by simp;omega)
         have zc':((bs++[b']).flatMap bC)[bs.length * 3+2]?=some (.int .i64 b'.2.2):=by
          rw [List.flatMap_append,List.getElem?_append_right (by rw [bC_len];omega),bC_len,show bs.length * 3+2 - bs.length * 3=2 by omega]
          rfl
         rw [zc'] at zc
         have zf:=hq4 (bs.length * 3+2)
         have HO2:=hide (own_setAt (own_below hqb ((Below.refl _ X).drew)) (bs.length * 3+2) (.int .i64 ((k+1:Nat):Int)))
         rw [bC_set] at HO2
         have hg8:X.grownBy (X.drew.setCell ⟨gq,bs.length * 3+2,none⟩ (.int .i64 ((k+1:Nat):Int))) (some gq):=grown_trans7L (w1:=X.drew) ⟨rfl,rfl,rfl,Nat.le_refl _,fun _ _ _=>rfl⟩ (grown_cell X.drew gq (bs.length * 3+2) (.int .i64 ((k+1:Nat):Int)))
         have HF7:Hid (FuncsAt (X.drew.setCell ⟨gq,bs.length * 3+2,none⟩ (.int .i64 ((k+1:Nat):Int))) W1.heap.size (.slice (some ⟨F,0,none⟩) (fs.length+1) c') (cutTo l (k+1))):=by
          rw [HCT.out,HTO.out]
          exact hL.setQ _ (bs++[(b'.1,b'.2.1,((k+1:Nat):Int))]) hg8 (by have:=HO2.out;simpa using this)
         have HB7:=hide (below_grown HBX.out hg8 (fun g e=>by simp at e;omega))
         have LC:Hid (∀ w',X.grownBy w' none→w'.cell? ⟨F,fs.length * 5+3,none⟩=some (.slice (some ⟨gq,0,none⟩) (bs.length+1) cq)):=fun w' hg=>hg.cell (by rw [dF];simp) (fun e=>by cases e)
         rw [show (bs++[b']).length=bs.length+1 by simp] at *
         generalize hnb:bs.length=nb at *
         have hnbn:nb<n:=by rw [hbs] at hbl;simp at hbl;omega
         have hn0:(0:Int)≤(nb:Int):=by omega
         have hn1':(nb:Int)<((nb+1:Nat):Int):=by omega
         have hn4:¬ ((nb:Int)+1≤(nb:Int)):=by omega
         have hn2:((nb+1:Nat):Int) - 1=(nb:Int):=by omega
         have hn3:IntKind.i64.wrap (nb:Int)=(nb:Int):=by rw [IntKind.wrap_i64];omega
         have hkk:IntKind.i64.wrap ((k:Int)+1)=((k+1:Nat):Int):=by rw [IntKind.wrap_i64];omega
         generalize hkg:((k+1:Nat):Int)=kk at *
         have HKK:=hide hkg
         clear hL hqb hq4 hq5 zc' HO2 hkg dF
         have hC0:X.grownBy X.drew none:=⟨rfl,rfl,rfl,Nat.le_refl _,fun _ _ _=>rfl⟩
         have hmix:Tryz.prog.follows .mixedOrders=true:=by kernel_rfl
         refine (wpIn_wide (n:=0)).1 ?_
         refine wpIn_normal (wpIn_region_any hmix (wpAnyE_sound (C:=fun w'=>X.grownBy w' none) (E:=fun i=>i==16) _ _ _ _ ?_))
         change wpAnyE _ _ _ _ _ _ _ _ _ _ _ (World.drew _)
         refine wpAnyE_takeD (i:=0) (some 84) (v:=.slice (some ⟨F,0,none⟩) (fs.length+1) c') (fun _=>trivial) (by kernel_rfl) rfl rfl (by kernel_rfl) (by kernel_rfl) (by kernel_rfl) (by kernel_rfl) (fun _ _ _ h=>by cases h.1) hC0 (Or.inl ⟨by rfl,fun w' hC=>by have eF:=LC.out w' hC;clear hC;go_simp⟩) ?_
         simp only [Act.put,ap1,ap2,ap3]
         refine wpAnyE_takeD (i:=1) (some 85) (v:=.int .i64 (fs.length:Int)) (fun _=>trivial) (by kernel_rfl) rfl rfl (by kernel_rfl) (by kernel_rfl) (by kernel_rfl) (by kernel_rfl) (fun _ _ _ h=>by cases h.1) hC0 (Or.inl ⟨by rfl,fun w' hC=>by have eF:=LC.out w' hC;clear hC;go_simp⟩) ?_
         simp only [Act.put,ap1,ap2,ap3]
         refine wpAnyE_takeD (i:=2) (some 86) (v:=.pointer (some ⟨F,fs.length * 5,none⟩)) (fun _=>trivial) (by kernel_rfl) rfl rfl (by kernel_rfl) (by kernel_rfl) (by kernel_rfl) (by kernel_rfl) (fun _ _ _ h=>by cases h.1) hC0 (Or.inl ⟨by rfl,fun w' hC=>by have eF:=LC.out w' hC;clear hC;go_simp⟩) ?_
         simp only [Act.put,ap1,ap2,ap3]
         refine wpAnyE_takeD (i:=3) (some 87) (v:=.pointer (some ⟨F,fs.length * 5+3,none⟩)) (fun _=>trivial) (by kernel_rfl) rfl rfl (by kernel_rfl) (by kernel_rfl) (by kernel_rfl) (by kernel_rfl) (fun _ _ _ h=>by cases h.1) hC0 (Or.inl ⟨by rfl,fun w' hC=>by have eF:=LC.out w' hC;clear hC;go_simp⟩) ?_
         simp only [Act.put,ap1,ap2,ap3]
         refine wpAnyE_takeD (i:=4) (some 88) (v:=.slice (some ⟨gq,0,none⟩) (nb+1) cq) (fun _=>trivial) (by kernel_rfl) rfl rfl (by kernel_rfl) (by kernel_rfl) (by kernel_rfl) (by kernel_rfl) (fun _ _ _ h=>by cases h.1) hC0 (Or.inl ⟨by rfl,fun w' hC=>by have eF:=LC.out w' hC;clear hC;go_simp⟩) ?_
         simp only [Act.put,ap1,ap2,ap3]
         refine wpAnyE_takeD (i:=5) (some 89) (v:=.slice (some ⟨F,0,none⟩) (fs.length+1) c') (fun _=>trivial) (by kernel_rfl) rfl rfl (by kernel_rfl) (by kernel_rfl) (by kernel_rfl) (by kernel_rfl) (fun _ _ _ h=>by cases h.1) hC0 (Or.inl ⟨by rfl,fun w' hC=>by have eF:=LC.out w' hC;clear hC;go_simp⟩) ?_
         simp only [Act.put,ap1,ap2,ap3]
         refine wpAnyE_takeD (i:=6) (some 90) (v:=.int .i64 (fs.length:Int)) (fun _=>trivial) (by kernel_rfl) rfl rfl (by kernel_rfl) (by kernel_rfl) (by kernel_rfl) (by kernel_rfl) (fun _ _ _ h=>by cases h.1) hC0 (Or.inl ⟨by rfl,fun w' hC=>by have eF:=LC.out w' hC;clear hC;go_simp⟩) ?_
         simp only [Act.put,ap1,ap2,ap3]
         refine wpAnyE_takeD (i:=7) (some 91) (v:=.pointer (some ⟨F,fs.length * 5,none⟩)) (fun _=>trivial) (by kernel_rfl) rfl rfl (by kernel_rfl) (by kernel_rfl) (by kernel_rfl) (by kernel_rfl) (fun _ _ _ h=>by cases h.1) hC0 (Or.inl ⟨by rfl,fun w' hC=>by have eF:=LC.out w' hC;clear hC;go_simp⟩) ?_
         simp only [Act.put,ap1,ap2,ap3]
         refine wpAnyE_takeD (i:=8) (some 92) (v:=.pointer (some ⟨F,fs.length * 5+3,none⟩)) (fun _=>trivial) (by kernel_rfl) rfl rfl (by kernel_rfl) (by kernel_rfl) (by kernel_rfl) (by kernel_rfl) (fun _ _ _ h=>by cases h.1) hC0 (Or.inl ⟨by rfl,fun w' hC=>by have eF:=LC.out w' hC;clear hC;go_simp⟩) ?_
         simp only [Act.put,ap1,ap2,ap3]
         refine wpAnyE_takeD (i:=9) (some 93) (v:=.slice (some ⟨gq,0,none⟩) (nb+1) cq) (fun _=>trivial) (by kernel_rfl) rfl rfl (by kernel_rfl) (by kernel_rfl) (by kernel_rfl) (by kernel_rfl) (fun _ _ _ h=>by cases h.1) hC0 (Or.inl ⟨by rfl,fun w' hC=>by have eF:=LC.out w' hC;clear hC;go_simp⟩) ?_
         simp only [Act.put,ap1,ap2,ap3]
         refine wpAnyE_takeD (i:=10) (some 94) (v:=.int .i64 ((nb+1:Nat):Int)) (fun _=>trivial) (by kernel_rfl) rfl rfl (by kernel_rfl) (by kernel_rfl) (by kernel_rfl) (by kernel_rfl) (fun _ _ _ h=>by cases h.1) hC0 (Or.inl ⟨by rfl,fun w' hC=>by have eF:=LC.out w' hC;clear hC;go_simp⟩) ?_
         simp only [Act.put,ap1,ap2,ap3]
         refine wpAnyE_takeD (i:=11) (some 95) (v:=.int .i64 (nb:Int)) (fun _=>trivial) (by kernel_rfl) rfl rfl (by kernel_rfl) (by kernel_rfl) (by kernel_rfl) (by kernel_rfl) (fun _ _ _ h=>by cases h.1) hC0 (Or.inl ⟨by rfl,fun w' hC=>by have eF:=LC.out w' hC;clear hC;go_simp⟩) ?_
         simp only [Act.put,ap1,ap2,ap3]
         refine wpAnyE_takeD (i:=12) (some 96) (v:=.int .i64 (k:Int)) (fun _=>trivial) (by kernel_rfl) rfl rfl (by kernel_rfl) (by kernel_rfl) (by kernel_rfl) (by kernel_rfl) (fun _ _ _ h=>by cases h.1) hC0 (Or.inl ⟨by rfl,fun w' hC=>by have eF:=LC.out w' hC;clear hC;go_simp⟩) ?_
         simp only [Act.put,ap1,ap2,ap3]
         refine wpAnyE_takeD (i:=13) (some 97) (v:=.int .i64 kk) (fun _=>trivial) (by kernel_rfl) rfl rfl (by kernel_rfl) (by kernel_rfl) (by kernel_rfl) (by kernel_rfl) (fun _ _ _ h=>by cases h.1) hC0 (Or.inl ⟨by rfl,fun w' hC=>by have eF:=LC.out w' hC;clear hC;go_simp⟩) ?_
         simp only [Act.put,ap1,ap2,ap3]
         have hn5:(nb:Int)<(nb:Int)+1:=by omega
         have zc2:X.drew.cell? ⟨gq,nb * 3+2,none⟩=some (.int .i64 b'.2.2):=zc
         have zf2:X.drew.frozen? ⟨gq,nb * 3+2,none⟩=false:=zf
         clear zc zf
         refine wpAnyE_ready (rs:=[14]) (by kernel_rfl) (by simp) ?_
         refine AllE.cons rfl (fun K hK=>?_) AllE.nil
         go_simp
         refine hK _ _ (.inr hC0) ?_
         clear hK K
         refine wpAnyE_ready (rs:=[15]) (by kernel_rfl) (by simp) ?_
         refine AllE.cons rfl (fun K hK=>?_) AllE.nil
         go_simp
         refine hK _ _ (.inr hC0) ?_
         clear hK K
         refine wpAnyE_ready (rs:=[16]) (by kernel_rfl) (by simp) ?_
         refine AllE.cons rfl (fun K hK=>?_) AllE.nil
         go_simp
         refine hK _ _ (.inl rfl) ?_
         clear hK K zc2 zf2 hC0 LC
         refine wpAnyE_done (by kernel_rfl) ⟨rfl,?_⟩ _
         have HF8:Hid (FuncsAt (X.setCell ⟨gq,nb * 3+2,none⟩ (.int .i64 kk)).drew W1.heap.size (.slice (some ⟨F,0,none⟩) (fs.length+1) c') (cutTo l (k+1))):=HF7.out
         have HB8:Hid (Below W1.heap.size W1 (X.setCell ⟨gq,nb * 3+2,none⟩ (.int .i64 kk)).drew):=HB7.out
         clear HF7 HB7 hg8
         try (change Exit.inBlock _ _ _ _ (X.setCell ⟨gq,nb * 3+2,none⟩ (.int .i64 kk)).drew)
         generalize (X.setCell ⟨gq,nb * 3+2,none⟩ (.int .i64 kk)).drew=Z at *
         rw [inBlock_then]
         go_wp2_with fail
         go_roundw
         case rel=>exact⟨k+1,_,by omega,by rw [HKK.out],rfl,HF8.out,HB8.out⟩
         case measure=>rw [← HKK.out];simp [intOf];omega
        ·have heb:endsB op=false:=by simpa using hends
         have HEB:=hide heb
         have HCT:=hide (cut_none (by rw [HOP.out];exact h54) (by rw [HOP.out];exact h55) (by rw [HOP.out];exact h56) (by rw [HOP.out];exact h248) (by rw [HOP.out];exact heb))
         obtain⟨xm,cm,hfv⟩:=HF.out.slice
         have hmk:(cutTo l k).length≤k:=hsmall.1
         have HF7:Hid (FuncsAt (wr.alloc (.cells #[.int .u16 op,.int .u32 ty,.int .u32 id,.slice aj nj cj] 63)) W1.heap.size fv (cutTo l (k+1))):=by rw [HCT.out];exact HF.out.below HXB.out
         have HB7:=hide (HBR.out.trans (HXB.out.mono HBR.out.size))
         generalize (cutTo l k).length=m at *
         subst hfv
         clear hsmall heb hends
         go_wp2_with fail
         generalize wr.alloc (.cells #[.int .u16 op,.int .u32 ty,.int .u32 id,.slice aj nj cj] 63)=Z at *
         clear p1 p2 p3 p4 m2
         refine (refEnds_any op _).mono ?_
         rintro e w9 ⟨rfl,rfl⟩
         have he9:endsB op=false:=HEB.out
         go_wp2_with fail
         go_roundw
         case rel=>exact⟨k+1,_,by omega,by go_num,rfl,HF7.out,HB7.out⟩
         case measure=>simp [intOf];omega
   ·obtain rfl:k=n:=by omega
    obtain⟨xm,cm,hfv⟩:=HF.out.slice
    have hmk:(cutTo l k).length≤k:=(cutTo_small l k).1
    have KE:=(hbr.block S hsx).trans HSN.out
    have KR:=((hbr.block (w.heap.size+1) (by omega)).trans (HB2.out.block (w.heap.size+1) kl)).trans HSB.out
    generalize hmm:(cutTo l k).length=m at *
    have HEQ:Hid (l.length=k):=HL.out
    subst hfv
    clear hbr hF hmm
    go_wp2_with fail
    obtain⟨cs,_⟩:=one_block KE
    have s0:=cs 0
    have s1:=cs 1
    obtain⟨cr,fr⟩:=one_block KR
    have r0:=cr 0
    have r1:=cr 1
    have hg2:=setCells_grown (w.heap.size+1) [.int .i64 0,.int .i64 (e2:Nat)] 0 wr
    have HP2:=hide (setCells_all (w:=wr) [.int .i64 0,.int .i64 (e2:Nat)] KR rfl)
    have HBF:=hide (below_grown HBW.out hg2 (fun g e=>by simp at e;omega))
    have HFN:Hid ((0:Int)≠0∧(Value.slice xm m cm)=.slice none 0 0∨(0:Int)=0∧FuncsAt (wr.setCells (w.heap.size+1) 0 [.int .i64 0,.int .i64 (e2:Nat)]).drew w.heap.size (.slice xm m cm) (cutTo l l.length)):=by
     refine .inr ⟨rfl,?_⟩
     rw [HEQ.out]
     exact ((HF.out.kept hg2 (fun g e=>by simp at e;omega)).below ((Below.refl _ _).drew)).lower (by omega)
    have ne1:S≠w.heap.size+1:=by omega
    have hsw:w.heap.size+1<wr.heap.size:=by omega
    have hSw:S<wr.heap.size:=by omega
    clear KE KR cs cr hg2
    go_region
    show Exit.then _ _ _ _ (wr.setCells (w.heap.size+1) 0 [.int .i64 0,.int .i64 (e2:Nat)]).drew
    have HP3:Hid ((wr.setCells (w.heap.size+1) 0 [.int .i64 0,.int .i64 (e2:Nat)]).drew.heap[w.heap.size+1]?=some (.cells #[.int .i64 0,.int .i64 (e2:Nat)] 33 (0,0))):=HP2.out
    have HB3:Hid (Below w.heap.size w (wr.setCells (w.heap.size+1) 0 [.int .i64 0,.int .i64 (e2:Nat)]).drew):=HBF.out.drew
    clear s0 s1 r0 r1 fr HP2 HBF
    generalize (wr.setCells (w.heap.size+1) 0 [.int .i64 0,.int .i64 (e2:Nat)]).drew=Z at *
    rw [then_normalW]
    go_wp2_with fail
    refine HRET.out _ Z (.slice xm m cm) ?_ ?_ ?_ HP3.out HB3.out HFN.out
    ·rfl
    ·rfl
    ·rfl
 ·have hE1:(e1 != 0)=true:=by simpa using hE0
  clear HFL HOPEN
  go_wp2_with fail
  generalize w1.alloc (.cells #[.int .i64 e1,.int .i64 e2] 33)=W1 at *
  generalize w1.heap.size=S at *
  have hsx:=HSX.out
  have HBW:=hide (HB0.out.trans (HB2.out.mono HB0.out.size))
  have KE:=HSN.out
  have KR:=(HB2.out.block (w.heap.size+1) kl).trans HSB.out
  have hw0:w.heap.size+1<S:=by omega
  obtain⟨cs,_⟩:=one_block KE
  have s0:=cs 0
  have s1:=cs 1
  obtain⟨cr,fr⟩:=one_block KR
  have r0:=cr 0
  have r1:=cr 1
  have hg2:=setCells_grown (w.heap.size+1) [.int .i64 e1,.int .i64 (e2:Nat)] 0 W1
  have HP2:=hide (setCells_all (w:=W1) [.int .i64 e1,.int .i64 (e2:Nat)] KR rfl)
  have HBF:=hide (below_grown HBW.out hg2 (fun g e=>by simp at e;omega))
  have HE0:=hide hE0
  have ne1:S≠w.heap.size+1:=by omega
  have hsw:w.heap.size+1<W1.heap.size:=by omega
  have hSw:S<W1.heap.size:=by omega
  clear KE KR cs cr hg2
  go_region
  show Exit.then _ _ _ _ (W1.setCells (w.heap.size+1) 0 [.int .i64 e1,.int .i64 (e2:Nat)]).drew
  have HP3:Hid ((W1.setCells (w.heap.size+1) 0 [.int .i64 e1,.int .i64 (e2:Nat)]).drew.heap[w.heap.size+1]?=some (.cells #[.int .i64 e1,.int .i64 (e2:Nat)] 33 (0,0))):=HP2.out
  have HB3:Hid (Below w.heap.size w (W1.setCells (w.heap.size+1) 0 [.int .i64 e1,.int .i64 (e2:Nat)]).drew):=HBF.out.drew
  clear s0 s1 r0 r1 fr HP2 HBF
  generalize (W1.setCells (w.heap.size+1) 0 [.int .i64 e1,.int .i64 (e2:Nat)]).drew=Z at *
  rw [then_normalW]
  go_wp2_with fail
  refine HRET.out _ Z (.slice none 0 0) ?_ ?_ ?_ HP3.out HB3.out (.inl ⟨HE0.out,rfl⟩)
  ·rfl
  ·rfl
  ·rfl
def FnAt (w:World) (B:Nat) (f:FuncT):Prop :=
 ∃ xp cp xq cq,w.heap[B]?=some (.cells #[.int .u32 f.1,.int .i64 f.2.1,.slice xp f.2.2.1.length cp,.slice xq f.2.2.2.1.length cq,.int .i64 f.2.2.2.2] 29 (0,0))∧View .i64 w xp f.2.2.1∧BlkV w xq f.2.2.2.1
theorem FnAt.below {w w':World} {B:Nat} {f:FuncT} (h:FnAt w B f) (hb:Below w.heap.size w w'):FnAt w' B f:=by
 obtain⟨xp,cp,xq,cq,h0,h1,h2⟩:=h
 exact⟨xp,cp,xq,cq,(hb.block _ (Array.getElem?_eq_some_iff.1 h0).1).trans h0,h1.below hb,h2.below hb⟩
set_option maxHeartbeats 4000000 in
theorem new1_any (vo:Value) (o f:FuncT) (B:Nat) (w:World) (ho:FnR w vo o) (hf:FnAt w B f) (hfew:f.2.2.1.length≤17592186044416∧f.2.2.2.1.length≤17592186044416) :
  Calls Tryz.prog 38 #[vo,.pointer (some ⟨B,0,none⟩)] w fun e w'=>(∃ r,e=.returned (.bool r)∧(r=true↔o=f))∧Below w.heap.size w w':=by
 obtain⟨xq,cq,yq,dq,h0,h1,h2⟩:=hf
 have HS:=hide (fun (wx:World) (hx:Below w.heap.size w wx)=>sameFunc_any vo _ o f wx (ho.below hx) ⟨⟨xq,cq,yq,dq,rfl,h1.below hx,h2.below hx⟩,by omega⟩)
 obtain⟨xp,cp,yp,dp,rfl,_,_⟩:=ho.form
 obtain⟨fi,fa,fp,fb,fe⟩:=f
 obtain⟨oi,oa,op,ob,oe⟩:=o
 simp only at *
 have h3:=allocOld h0 (.cells #[.int .u32 oi,.int .i64 oa,.slice xp op.length cp,.slice yp ob.length dp,.int .i64 oe] 29)
 have hb:Below w.heap.size w (w.alloc (.cells #[.int .u32 oi,.int .i64 oa,.slice xp op.length cp,.slice yp ob.length dp,.int .i64 oe] 29)):=(Below.refl _ w).alloc (Nat.le_refl _) _
 have HB0:=hide hb
 obtain⟨b0,b1,b2,b3,b4⟩:=fiveCells h3
 clear ho h0 h1 h2 hfew h3 hb
 generalize fp.length=n1 at *
 generalize fb.length=n2 at *
 generalize op.length=n3 at *
 generalize ob.length=n4 at *
 go_enter Tryz.func38,Tryz.ntmps38
 go_wp2_with fail
 refine (HS.out _ HB0.out).mono ?_
 rintro e w' ⟨⟨r,rfl,hr⟩,hb⟩
 have HR:=hide hr
 have HB:=hide (HB0.out.trans (hb.mono HB0.out.size))
 clear hr hb b0 b1 b2 b3 b4
 go_wp2_with fail
 go_ret
 exact⟨⟨r,rfl,HR.out⟩,HB.out⟩
theorem nthF_mem {fs:List FuncT} {j:Nat} (h:j<fs.length):nthF fs j∈fs:=by
 unfold nthF
 rw [List.getD_eq_getElem?_getD,List.getElem?_eq_getElem h]
 exact List.getElem_mem h
theorem mem_nthF {fs:List FuncT} {f:FuncT} (h:f∈fs):∃ j,j<fs.length∧nthF fs j=f:=by
 obtain⟨j,hj,e⟩:=List.mem_iff_getElem.1 h
 refine⟨j,hj,?_⟩
 unfold nthF
 rw [List.getD_eq_getElem?_getD,List.getElem?_eq_getElem hj]
 exact e
set_option maxHeartbeats 8000000 in
theorem indexNew_any (fv:Value) (fs:List FuncT) (f:FuncT) (B:Nat) (w:World) (hr:FuncsR w fv fs) (hfl:FewF fs) (hf:FnAt w B f) (hfew:f.2.2.1.length≤17592186044416∧f.2.2.2.1.length≤17592186044416) :
  Calls Tryz.prog 88 #[fv,.func (.func 38) #[] #[.pointer (some ⟨B,0,none⟩)]] w fun e w'=>(∃ r:Int,e=.returned (.int .i64 r)∧(0≤r↔f∈fs))∧Below w.heap.size w w':=by
 have HR:=hide hr
 have HC:=hide (fun (wx:World) (hx:Below w.heap.size w wx) (vo:Value) (o:FuncT) (ho:FnR wx vo o)=>new1_any vo o f B wx ho (hf.below hx) hfew)
 obtain⟨x,c,rfl,_⟩:=hr
 have HFL:=hide hfl
 have hlen:=hfl.1
 clear hf hfew hfl
 go_enter Tryz.func88,Tryz.ntmps88
 go_wp2_with fail
 go_loopw [8] (fun i wr=>∃ j:Nat,j≤fs.length∧i=.int .i64 j∧(∀ i,i<j→¬ nthF fs i=f)∧Below w.heap.size w wr) (fun i _=>fs.length - (intOf i).toNat)
 case atStart=>exact⟨0,Nat.zero_le _,rfl,fun i h=>absurd h (Nat.not_lt_zero i),Below.refl _ _⟩
 case round =>
  obtain⟨j,hj,rfl,hno,hbr⟩:=hrel
  have HNO:=hide hno
  have HBR:=hide hbr
  by_cases hlt:j<fs.length
  ·have HLT:=hide hlt
   obtain⟨_,_,e1,hA⟩:=HR.out.below hbr
   injection e1 with e1 e2 e3
   obtain⟨F,xp,cp,xq,cq,hx,hF,q0,q1,q2,q3,q4,hvp,hvq⟩:=hA j hlt
   have hx2:=e1.trans hx
   have hj0:(0:Int)≤(j:Int):=by omega
   have hji:(j:Int)<(fs.length:Int):=by omega
   have HMEM:=hide (nthF_mem hlt)
   have hcl:=HC.out wr hbr _ (nthF fs j) ⟨⟨xp,cp,xq,cq,rfl,hvp,fun k hk=>by
    obtain⟨G,e4,g1,g2,g3,g4⟩:=hvq k hk
    exact⟨G,0,e4,g1,by simpa using g2,by simpa using g3,by simpa using g4⟩⟩,by have:=HFL.out.2 j;omega⟩
   have HEQ:Hid (∀ r:Bool,(r=true↔nthF fs j=f)→(r=true↔nthF fs j=f)):=fun r h=>h
   subst hx2
   clear e1 e2 e3 hx hA hbr hno hvp hvq
   generalize hfn:nthF fs j=fn at *
   have HFN:=hide hfn
   clear hfn
   generalize hP:(fn=f)=P at *
   have HP:=hide hP
   clear hP
   obtain⟨fid,fat,fps,fbs,fen⟩:=fn
   simp only at *
   generalize hm:fs.length=m at *
   have HM:=hide hm
   clear hm
   go_wp2_with fail
   refine hcl.mono ?_
   rintro e w2 ⟨⟨r,rfl,hr2⟩,hb2⟩
   have HB2:=hide (HBR.out.trans (hb2.mono HBR.out.size))
   clear hcl hb2 q0 q1 q2 q3 q4
   cases r with
   | true =>
    have HIN:Hid P:=hr2.1 rfl
    clear hr2
    go_wp2_with fail
    go_ret
    refine⟨⟨_,rfl,fun _=>?_,fun _=>by omega⟩,HB2.out⟩
    have e:=HIN.out
    rw [← HP.out] at e
    rw [← e]
    exact HMEM.out
   | false =>
    have HIN2:Hid (¬ P):=fun h=>Bool.noConfusion (hr2.2 h)
    clear hr2
    go_wp2_with fail
    go_roundw
    case rel =>
     refine⟨j+1,by omega,by go_num,fun i hi=>?_,HB2.out⟩
     by_cases e:i=j
     ·subst e
      rw [HFN.out,HP.out]
      exact HIN2.out
     ·exact HNO.out i (by omega)
    case measure=>simp [intOf];omega
  ·obtain rfl:j=fs.length:=by omega
   clear hno hbr
   go_wp2_with fail
   go_ret
   refine⟨⟨_,rfl,fun h=>absurd h (by decide),fun h=>?_⟩,HBR.out⟩
   obtain⟨i,hi,e⟩:=mem_nthF h
   exact absurd e (HNO.out i hi)
set_option maxHeartbeats 2000000 in
theorem containsNew_any (fv:Value) (fs:List FuncT) (f:FuncT) (B:Nat) (w:World) (hr:FuncsR w fv fs) (hfl:FewF fs) (hf:FnAt w B f) (hfew:f.2.2.1.length≤17592186044416∧f.2.2.2.1.length≤17592186044416) :
  Calls Tryz.prog 37 #[fv,.func (.func 38) #[] #[.pointer (some ⟨B,0,none⟩)]] w fun e w'=>(∃ r:Bool,e=.returned (.bool r)∧(r=true↔f∈fs))∧Below w.heap.size w w':=by
 have hI:=indexNew_any fv fs f B w hr hfl hf hfew
 obtain⟨x,c,rfl,_⟩:=hr
 generalize hP:(f∈fs)=P at *
 clear hf hfew hfl hP
 generalize fs.length=m at *
 go_enter Tryz.func37,Tryz.ntmps37
 go_wp2_with fail
 refine hI.mono ?_
 rintro e w1 ⟨⟨i,rfl,hi⟩,hb⟩
 have HI:=hide hi
 have HB:=hide hb
 clear hI hi hb
 go_wp2_with fail
 go_ret
 exact⟨⟨decide (0≤i),rfl,by rw [← HI.out];simp⟩,HB.out⟩
end Go.Proofs.YtlcaedibmlidlaaGreat
