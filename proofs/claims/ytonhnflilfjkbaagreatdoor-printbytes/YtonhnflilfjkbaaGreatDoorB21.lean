/-
  Texts in one: Ref08Small, Ref08Head, DrawLies, Ref08Tokens.
-/
import Derived.Test.YtonhnflilfjkbaaGreatDoorB19
import Derived.BigFrame
import Derived.Lib.AppendStr
namespace Go.Proofs.YtonhnflilfjkbaaGreatDoor
open Go.RowKit
set_option maxRecDepth 10000
set_option linter.unusedVariables false
set_option linter.unusedSimpArgs false
theorem refDigits8_any (n:Int) (w:World) (h0:0≤n) (h1:n<4294967296) (ht:Pow10 w):Calls Tryz.prog 35 #[.int .u32 n] w fun e w'=>e=.returned (.string (dgS n))∧Below w.heap.size w w':=by
 obtain⟨u,rfl⟩:=Int.eq_ofNat_of_zero_le h0
 have hF:=formatUint_any u (by omega) w ht
 have hw:IntKind.u64.wrap (u:Int)=(u:Int):=by rw [IntKind.wrap_u64];omega
 go_enter Tryz.func35,Tryz.ntmps35
 go_wp2_with fail
 refine hF.mono ?_
 rintro e w' ⟨rfl,hb⟩
 go_wp2_with fail
 go_ret
 exact⟨rfl,hb⟩
theorem refId8_any (n:Int) (w:World) (h0:0≤n) (h1:n<4294967296) (ht:Pow10 w):Calls Tryz.prog 44 #[.int .u32 n] w fun e w'=>e=.returned (tokV (2,dgS n,0))∧Below w.heap.size w w':=by
 have hb0:Below w.heap.size w (w.alloc (.cells #[.int .u8 0,.string ⟨#[]⟩,.int .i64 0] 81)):=(Below.refl _ w).alloc (Nat.le_refl _) _
 have hF:=refDigits8_any n _ h0 h1 (ht.below hb0)
 have hk:=heap_alloc_new w (.cells #[.int .u8 0,.string ⟨#[]⟩,.int .i64 0] 81)
 go_enter Tryz.func44,Tryz.ntmps44
 go_wp2_with fail
 generalize w.alloc (.cells #[.int .u8 0,.string ⟨#[]⟩,.int .i64 0] 81)=W at *
 refine hF.mono ?_
 rintro e w' ⟨rfl,hb⟩
 have HB:=Lib.hid (hb0.trans (hb.mono hb0.size))
 have hk2:=(hb.block w.heap.size (Array.getElem?_eq_some_iff.1 hk).1).trans hk
 have c0:=(one_block hk2).1 0
 have c1:=(one_block hk2).1 1
 have c2:=(one_block hk2).1 2
 have f:=(one_block hk2).2
 have f0:=f 0
 have f1:=f 1
 have f2:=f 2
 clear hF hb hb0 hk hk2 f
 go_wp2_with fail
 refine bodyPost_ret (v:=.agg #[.int .u8 2,.string (dgS n),.int .i64 0]) ?_ rfl ⟨rfl,?_⟩
 ·simp [results,Tryz.results44,go_sem,c0,c1,c2,f0,f1,f2]
 ·exact ((HB.out.setCell (by simp) _).setCell (by simp) _).setCell (by simp) _
set_option maxHeartbeats 4000000 in
theorem refArgument8_any (c:Int) (y:ArgT) (w:World) (hok:ArgOk y) (ht:Pow10 w):Calls Tryz.prog 45 #[.int .u8 c,argV y] w fun e w'=>e=.returned (tokV (argTk c y))∧Below w.heap.size w w':=by
 obtain⟨y0,y1,y2⟩:=y
 obtain⟨o1,o2,o3,o4,o5⟩:=hok
 simp only at o1 o2 o3 o4 o5
 unfold argV
 simp only
 have hb0:Below w.heap.size w ((w.alloc (.cells #[.int .u8 y0,.int .u32 y1,.string y2] 61)).alloc (.cells #[.int .u8 0,.string ⟨#[]⟩,.int .i64 0] 81)):=((Below.refl _ w).alloc (Nat.le_refl _) _).alloc (by simp) _
 have hI:=refId8_any y1 _ o3 o4 (ht.below hb0)
 have hN:=refDigits8_any y1 _ o3 o4 (ht.below hb0)
 have hE:=fun wx=>refEnum_any c y1 wx
 have hkR:=heap_alloc_new (w.alloc (.cells #[.int .u8 y0,.int .u32 y1,.string y2] 61)) (.cells #[.int .u8 0,.string ⟨#[]⟩,.int .i64 0] 81)
 have hkA:((w.alloc (.cells #[.int .u8 y0,.int .u32 y1,.string y2] 61)).alloc (.cells #[.int .u8 0,.string ⟨#[]⟩,.int .i64 0] 81)).heap[w.heap.size]?=some (.cells #[.int .u8 y0,.int .u32 y1,.string y2] 61 (0,0)):=by rw [Below.heap_alloc _ _ _ (by simp)];exact heap_alloc_new _ _
 have hkR':((w.alloc (.cells #[.int .u8 y0,.int .u32 y1,.string y2] 61)).alloc (.cells #[.int .u8 0,.string ⟨#[]⟩,.int .i64 0] 81)).heap[w.heap.size+1]?=some (.cells #[.int .u8 0,.string ⟨#[]⟩,.int .i64 0] 81 (0,0)):=by simpa using hkR
 have HB0:=hide hb0
 have HA:=hide hkA
 have HR:=hide hkR'
 clear hkR hkA hkR' hb0 ht
 by_cases h1:y0=1
 ·subst h1
  have e1:argTk c (1,y1,y2)=(2,(dgS y1),0):=by simp [argTk]
  rw [e1]
  clear hN hE
  go_enter Tryz.func45,Tryz.ntmps45
  go_wp2_with fail
  generalize (w.alloc (.cells #[.int .u8 1,.int .u32 y1,.string y2] 61)).alloc (.cells #[.int .u8 0,.string ⟨#[]⟩,.int .i64 0] 81)=W at *
  refine (hI).mono ?_
  rintro e w' ⟨rfl,hb⟩
  have HB:=hide (HB0.out.trans (hb.mono HB0.out.size))
  have hk2:=(hb.block (w.heap.size+1) (Array.getElem?_eq_some_iff.1 HR.out).1).trans HR.out
  have c0:=(one_block hk2).1 0
  have c1:=(one_block hk2).1 1
  have c2:=(one_block hk2).1 2
  have f:=(one_block hk2).2
  have f0:=f 0
  have f1:=f 1
  have f2:=f 2
  clear hb hk2 f
  unfold tokV
  go_wp2_with fail
  refine bodyPost_ret (v:=.agg #[.int .u8 2,.string (dgS y1),.int .i64 0]) ?_ rfl ⟨rfl,?_⟩
  ·simp [results,Tryz.results45,go_sem,c0,c1,c2,f0,f1,f2]
  ·exact ((HB.out.setCell (by simp) _).setCell (by simp) _).setCell (by simp) _
 by_cases h2:y0=2
 ·subst h2
  have e1:argTk c (2,y1,y2)=(3,(dgS y1),0):=by simp [argTk]
  rw [e1]
  clear hI hE h1
  go_enter Tryz.func45,Tryz.ntmps45
  go_wp2_with fail
  generalize (w.alloc (.cells #[.int .u8 2,.int .u32 y1,.string y2] 61)).alloc (.cells #[.int .u8 0,.string ⟨#[]⟩,.int .i64 0] 81)=W at *
  refine (hN).mono ?_
  rintro e w' ⟨rfl,hb⟩
  have HB:=hide (HB0.out.trans (hb.mono HB0.out.size))
  have hk2:=(hb.block (w.heap.size+1) (Array.getElem?_eq_some_iff.1 HR.out).1).trans HR.out
  have c0:=(one_block hk2).1 0
  have c1:=(one_block hk2).1 1
  have c2:=(one_block hk2).1 2
  have f:=(one_block hk2).2
  have f0:=f 0
  have f1:=f 1
  have f2:=f 2
  clear hb hk2 f
  go_wp2_with fail
  refine bodyPost_ret (v:=.agg #[.int .u8 3,.string (dgS y1),.int .i64 0]) ?_ rfl ⟨rfl,?_⟩
  ·simp [results,Tryz.results45,go_sem,c0,c1,c2,f0,f1,f2]
  ·exact ((HB.out.setCell (by simp) _).setCell (by simp) _).setCell (by simp) _
 by_cases h3:y0=3
 ·subst h3
  have e1:argTk c (3,y1,y2)=(4,y2,0):=by simp [argTk]
  rw [e1]
  have hk4:((w.alloc (.cells #[.int .u8 3,.int .u32 y1,.string y2] 61)).alloc (.cells #[.int .u8 4,.string y2,.int .i64 0] 81)).heap[w.heap.size+1]?=some (.cells #[.int .u8 4,.string y2,.int .i64 0] 81 (0,0)):=by
   have:=heap_alloc_new (w.alloc (.cells #[.int .u8 3,.int .u32 y1,.string y2] 61)) (.cells #[.int .u8 4,.string y2,.int .i64 0] 81);simpa using this
  have HK4:=hide hk4
  clear hI hE hN h1 h2 hk4
  go_enter Tryz.func45,Tryz.ntmps45
  go_wp2_with fail
  have c0:=(one_block HK4.out).1 0
  have c1:=(one_block HK4.out).1 1
  have c2:=(one_block HK4.out).1 2
  refine bodyPost_ret (v:=.agg #[.int .u8 4,.string y2,.int .i64 0]) ?_ rfl ⟨rfl,((Below.refl _ w).alloc (Nat.le_refl _) _).alloc (by simp) _⟩
  generalize World.alloc (World.alloc w _) _=W at *
  simp [results,Tryz.results45,go_sem,c0,c1,c2]
 ·have e1:argTk c (y0,y1,y2)=(1,enumS c y1,0):=by simp [argTk,h1,h2,h3]
  rw [e1]
  have hb1:(y0==1)=false:=by simpa using h1
  have hb2:(y0==2)=false:=by simpa using h2
  have hb3:(y0==3)=false:=by simpa using h3
  clear hI hN h1 h2 h3
  go_enter Tryz.func45,Tryz.ntmps45
  go_wp2_with fail
  generalize (w.alloc (.cells #[.int .u8 y0,.int .u32 y1,.string y2] 61)).alloc (.cells #[.int .u8 0,.string ⟨#[]⟩,.int .i64 0] 81)=W at *
  refine (hE _).mono ?_
  rintro e w' ⟨rfl,hb⟩
  have HB:=hide (HB0.out.trans (hb.mono HB0.out.size))
  have hk2:=(hb.block (w.heap.size+1) (Array.getElem?_eq_some_iff.1 HR.out).1).trans HR.out
  have c0:=(one_block hk2).1 0
  have c1:=(one_block hk2).1 1
  have c2:=(one_block hk2).1 2
  have f:=(one_block hk2).2
  have f0:=f 0
  have f1:=f 1
  have f2:=f 2
  clear hb hk2 f hE
  go_wp2_with fail
  refine bodyPost_ret (v:=.agg #[.int .u8 1,.string (enumS c y1),.int .i64 0]) ?_ rfl ⟨rfl,?_⟩
  ·simp [results,Tryz.results45,go_sem,c0,c1,c2,f0,f1,f2]
  ·exact ((HB.out.setCell (by simp) _).setCell (by simp) _).setCell (by simp) _
theorem head8_bytes (g b:Int):strOfNums (headL g b++[10])=(⟨#[109,111,100,117,108,101,32]⟩:ByteArray)++dgS g++(⟨#[32]⟩:ByteArray)++dgS b++(⟨#[10]⟩:ByteArray):=by
 have h:headL g b++[10]=[109,111,100,117,108,101,32]++dgL g.toNat++[32]++dgL b.toNat++[10]:=by
  simp [headL,headTk,wtAll,wtS,strI_dgS]
  rfl
 rw [h]
 simp only [strOfNums_append]
 rfl
set_option maxHeartbeats 4000000 in
theorem refHead8_any (g b:Int) (a:Option Addr) (n c:Nat) (w:World) (g0:0≤g) (g1:g<4294967296) (b0:0≤b) (b1:b<4294967296) (ht:Pow10 w) :
  Calls Tryz.prog 20 #[.agg #[.int .u32 g,.int .u32 b,.slice a n c]] w fun e w'=>e=.returned (.string (strOfNums (headL g b++[10])))∧Below w.heap.size w w':=by
 rw [head8_bytes]
 have hba:Below w.heap.size w (w.alloc (.cells #[.int .u32 g,.int .u32 b,.slice a n c] 25)):=(Below.refl _ w).alloc (Nat.le_refl _) _
 have k0:=heap_alloc_new w (.cells #[.int .u32 g,.int .u32 b,.slice a n c] 25)
 have HB0:=hide hba
 have K0:=hide k0
 have HG:=hide fun wx (h:Below w.heap.size w wx)=>refDigits8_any g wx g0 g1 (ht.below h)
 have HD:=hide fun wx (h:Below w.heap.size w wx)=>refDigits8_any b wx b0 b1 (ht.below h)
 have hs1:=dgS_size g1
 have hs2:=dgS_size b1
 generalize dgS g=A at *
 generalize dgS b=B at *
 clear hba k0 ht
 go_enter Tryz.func20,Tryz.ntmps20
 go_wp2_with fail
 generalize World.alloc w _=W at *
 have LC:Hid (∀ w',Below W.heap.size W w'→w'.cell? ⟨w.heap.size,0,none⟩=some (.int .u32 g)∧w'.cell? ⟨w.heap.size,1,none⟩=some (.int .u32 b)):=fun w' h=>by
  have q:=(one_block ((h.block _ (Array.getElem?_eq_some_iff.1 K0.out).1).trans K0.out)).1
  exact⟨q 0,q 1⟩
 have hC0:Below W.heap.size W W.drew:=(Below.refl _ W).drew
 have hmix:Tryz.prog.follows .mixedOrders=true:=by kernel_rfl
 refine (wpIn_wide (n:=0)).1 ?_
 refine wpIn_normal (wpIn_region_any hmix (wpAnyE_sound (C:=Below W.heap.size W) (E:=fun _=>false) _ _ _ _ ?_))
 change wpAnyE _ _ _ _ _ _ _ _ _ _ _ (World.drew _)
 refine wpAnyE_takeD (i:=0) (some 3) (v:=(.pointer (some ⟨w.heap.size,0,none⟩))) (fun _=>trivial) (by kernel_rfl) rfl rfl (by kernel_rfl) (by kernel_rfl) (by kernel_rfl) (by kernel_rfl) (fun _ _ _ h=>by cases h.1) hC0 (Or.inl ⟨by kernel_rfl,fun w' hC=>by obtain⟨e1,e2⟩:=LC.out w' hC;clear hC;go_simp⟩) ?_
 simp only [Act.put,ap1,ap2,ap3]
 refine wpAnyE_takeD (i:=1) (some 4) (v:=(.int .u32 g)) (fun _=>trivial) (by kernel_rfl) rfl rfl (by kernel_rfl) (by kernel_rfl) (by kernel_rfl) (by kernel_rfl) (fun _ _ _ h=>by cases h.1) hC0 (Or.inl ⟨by kernel_rfl,fun w' hC=>by obtain⟨e1,e2⟩:=LC.out w' hC;clear hC;go_simp⟩) ?_
 simp only [Act.put,ap1,ap2,ap3]
 refine wpAnyE_takeD (i:=5) (some 8) (v:=(.pointer (some ⟨w.heap.size,1,none⟩))) (fun _=>trivial) (by kernel_rfl) rfl rfl (by kernel_rfl) (by kernel_rfl) (by kernel_rfl) (by kernel_rfl) (fun _ _ _ h=>by cases h.1) hC0 (Or.inl ⟨by kernel_rfl,fun w' hC=>by obtain⟨e1,e2⟩:=LC.out w' hC;clear hC;go_simp⟩) ?_
 simp only [Act.put,ap1,ap2,ap3]
 refine wpAnyE_takeD (i:=6) (some 9) (v:=(.int .u32 b)) (fun _=>trivial) (by kernel_rfl) rfl rfl (by kernel_rfl) (by kernel_rfl) (by kernel_rfl) (by kernel_rfl) (fun _ _ _ h=>by cases h.1) hC0 (Or.inl ⟨by kernel_rfl,fun w' hC=>by obtain⟨e1,e2⟩:=LC.out w' hC;clear hC;go_simp⟩) ?_
 simp only [Act.put,ap1,ap2,ap3]
 clear LC
 refine wpAnyE_ready (rs:=[2]) (by kernel_rfl) (by simp) ?_
 refine AllE.cons rfl (fun Kk hK=>?_) AllE.nil
 go_simp
 refine⟨trivial,rfl,(callsIn_wide.2 (HG.out W.drew HB0.out.drew)).mono ?_⟩
 rintro e w1 ⟨rfl,hb1⟩
 dsimp only
 have hC1:=hC0.trans (show Below W.heap.size W.drew w1 from hb1)
 refine hK _ _ (.inr hC1) ?_
 clear hK Kk hb1
 refine wpAnyE_takeD (i:=3) (some 6) (v:=(.string ((⟨#[109,111,100,117,108,101,32]⟩:ByteArray)++A))) (fun _=>trivial) (by kernel_rfl) rfl rfl (by kernel_rfl) (by kernel_rfl) (by kernel_rfl) (by kernel_rfl) (fun _ _ _ h=>by cases h.1) hC1 (Or.inl ⟨by kernel_rfl,fun w' hC=>by clear hC;go_simp;omega⟩) ?_
 simp only [Act.put,ap1,ap2,ap3]
 refine wpAnyE_takeD (i:=4) (some 7) (v:=(.string ((⟨#[109,111,100,117,108,101,32]⟩:ByteArray)++A++(⟨#[32]⟩:ByteArray)))) (fun _=>trivial) (by kernel_rfl) rfl rfl (by kernel_rfl) (by kernel_rfl) (by kernel_rfl) (by kernel_rfl) (fun _ _ _ h=>by cases h.1) hC1 (Or.inl ⟨by kernel_rfl,fun w' hC=>by clear hC;go_simp;omega⟩) ?_
 simp only [Act.put,ap1,ap2,ap3]
 refine wpAnyE_ready (rs:=[7]) (by kernel_rfl) (by simp) ?_
 refine AllE.cons rfl (fun Kk hK=>?_) AllE.nil
 go_simp
 refine⟨trivial,rfl,(callsIn_wide.2 (HD.out w1 (HB0.out.trans (hC1.mono HB0.out.size)))).mono ?_⟩
 rintro e w2 ⟨rfl,hb2⟩
 dsimp only
 have hC2:=hC1.trans (hb2.mono hC1.size)
 refine hK _ _ (.inr hC2) ?_
 clear hK Kk hb2
 refine wpAnyE_takeD (i:=8) (some 11) (v:=(.string ((⟨#[109,111,100,117,108,101,32]⟩:ByteArray)++A++(⟨#[32]⟩:ByteArray)++B))) (fun _=>trivial) (by kernel_rfl) rfl rfl (by kernel_rfl) (by kernel_rfl) (by kernel_rfl) (by kernel_rfl) (fun _ _ _ h=>by cases h.1) hC2 (Or.inl ⟨by kernel_rfl,fun w' hC=>by clear hC;go_simp;omega⟩) ?_
 simp only [Act.put,ap1,ap2,ap3]
 refine wpAnyE_takeD (i:=9) (some 12) (v:=(.string ((⟨#[109,111,100,117,108,101,32]⟩:ByteArray)++A++(⟨#[32]⟩:ByteArray)++B++(⟨#[10]⟩:ByteArray)))) (fun _=>trivial) (by kernel_rfl) rfl rfl (by kernel_rfl) (by kernel_rfl) (by kernel_rfl) (by kernel_rfl) (fun _ _ _ h=>by cases h.1) hC2 (Or.inl ⟨by kernel_rfl,fun w' hC=>by clear hC;go_simp;omega⟩) ?_
 simp only [Act.put,ap1,ap2,ap3]
 refine wpAnyE_ready (rs:=[10]) (by kernel_rfl) (by simp) ?_
 refine AllE.cons rfl (fun Kk hK=>?_) AllE.nil
 go_simp
 refine hK _ _ (.inr hC2) ?_
 clear hK Kk
 refine wpAnyE_done (by kernel_rfl) ⟨rfl,?_⟩ _
 have HB2:=hide (HB0.out.trans (hC2.mono HB0.out.size))
 clear hC0 hC1 hC2
 go_wp2_with fail
 go_ret
 exact⟨rfl,HB2.out⟩
theorem stepAny_lies {P:Program} (w:World) {F:Fence} (hF:∀ f,F.fn f) {o:Oper} {ops:Array Oper} {a:Act} {K:Act→World→Prop} {Q:Exit→Act→World→Prop} (hgd:o.guard=none) (s x:Operand) (t:TypeId)
  (ho:o.op=.call { callee:=.builtin .append,args:=#[s,x],argTypes:=#[t,t] }) (base:Nat) (e:TypeId) (i:TypeInfo) (z:Value) (size bytes:Nat) (ht:P.underlying t=some (.slice e)) (hi:P.info? e=some i) (hz:i.zero=some z)
  (hsize:i.size=size) (hby:i.bytes=bytes) (hzs:z.cells.size=size) (hsz:0<size) (v:Value) (n:Nat) (xs:List Value) (hs:a.eval s=v) (hown:w.ownsRow base e size v n xs)
  (ad:Addr) (m c:Nat) (news:List Value) (hx:a.eval x=.slice (some ad) m c) (hl:news.length=m * size) (hnews:∀ j u,news[j]?=some u→w.cell? (ad.add j)=some u) (h1:∀ u∈news,u.oneCell'=true)
  (hm:0<m) (h63:n+m≤maxLen) (hbytes:(n+m) * bytes≤140737488355328) (hbase:base≤w.heap.size)
  (h:∀ g cap w',w'.ownsRow base e size (.slice (some ⟨g,0,none⟩) (n+m) cap) (n+m) (xs++news)→w.grownBy w' v.ownBlock→(v.ownBlock=some g∨g=w.heap.size)→K (a.put o.dst (.slice (some ⟨g,0,none⟩) (n+m) cap)) w') :
  if Region.wanted o (yielded ops a.tmps)=true then Oper.wpIn F 0 P o a w K Q else (∀ f,o.about P w a.eval=some f→F.fn f)∧K (a.put o.dst undef) w:=by
 obtain⟨g,cap',w',hr,h2,h3,h4,_⟩:=run_append_lies (P:=P) w t o.type base e i z size bytes ht hi hz hsize hby hzs hsz v n xs hown ad m c news hl hnews h1 hm h63 hbytes hbase w.heap.size rfl
 rw [if_pos (by simp [Region.wanted,hgd])]
 refine⟨fun f _=>hF f,?_⟩
 rw [Oper.semAt_eq _ _ _ (fun c hc=>by rw [ho] at hc;cases hc)]
 unfold execOp
 simp only [ho,resolve,invoke,builtin,Sem.run_bind,Sem.run_pure,Result.andThen_ok,List.map_toArray,List.map_cons,List.map_nil,hs,hx,hr]
 exact h g cap' w' h2 h3 h4
structure T8 (W1 wr : World) (v : Value) (l : List TokT) : Prop where
  bel : Below W1.heap.size W1 wr
  own : wr.ownsRow W1.heap.size 81 3 v l.length (l.flatMap tokC)
theorem T8.below {W1 wr w':World} {v:Value} {l:List TokT} (h:T8 W1 wr v l) (hb:Below wr.heap.size wr w'):T8 W1 w' v l:=⟨h.bel.trans (hb.mono h.bel.size),own_below h.own hb⟩
theorem T8.push {W1 wr w':World} {v:Value} {l:List TokT} {t:TokT} {x:Value} (h:T8 W1 wr v l) {g cap:Nat} {obj:Obj} (ho:w'.ownsRow W1.heap.size 81 3 x (l.length+1) (l.flatMap tokC++tokC t)) (hg:(wr.alloc obj).grownBy w' v.ownBlock):T8 W1 w' x (l++[t]):=by
 have hb:=h.bel.alloc h.bel.size obj
 refine⟨hb.grown hg hb.size (fun j e=>(World.ownsRow.lt h.own j e).1),?_⟩
 simpa [List.flatMap_append] using ho
theorem t8_app {W1 wr:World} {v:Value} {l:List TokT} {t:TokT} (h:T8 W1 wr v l) {ops:Array Oper} {rest:List Oper} {o:Oper} {a:Act} {Q:Exit→Act→World→Prop} (hgd:o.guard=none) (s x:Operand) (ho:o.op=.call { callee:=.builtin .append,args:=#[s,x],argTypes:=#[58,58] })
  (hs:a.eval s=v) (hx:a.eval x=.slice (some ⟨wr.heap.size,0,none⟩) 1 1) (hn:l.length≤1099511627776)
  (hK:∀ v' w',T8 W1 w' v' (l++[t])→wpList Tryz.prog ops Q rest (a.put o.dst v') w'):wpList Tryz.prog ops Q (o :: rest) a (wr.alloc (.cells #[.int .u8 t.1,.string t.2.1,.int .i64 t.2.2] 81)):=by
 obtain⟨i0,hi,hz0,hz1,hz2⟩:=info_parts Tok.info
 have hb:=(Below.refl _ wr).alloc (Nat.le_refl _) (.cells #[.int .u8 t.1,.string t.2.1,.int .i64 t.2.2] 81)
 refine wpList_append_lies _ hgd s x 58 ho W1.heap.size 81 i0 (.agg #[.int .u8 0,.string ⟨#[]⟩,.int .i64 0]) 3 32 Tryz.underlying58 hi hz0 hz1 hz2 rfl (by decide) v l.length (l.flatMap tokC) hs (own_below h.own hb) ⟨wr.heap.size,0,none⟩ 1 1 [.int .u8 t.1,.string t.2.1,.int .i64 t.2.2] hx rfl (World.news_of_block (cs:=#[.int .u8 t.1,.string t.2.1,.int .i64 t.2.2]) (t:=81) (fr:=(0,0)) (heap_alloc_new wr _)) (by intro u hu;simp at hu;rcases hu with rfl | rfl | rfl <;> rfl) (by decide) (by unfold maxLen;omega) (by omega) (by rw [World.size_alloc];have:=h.bel.size;omega) _ rfl ?_
 intro g cap w' h1 h2 h3 h4
 exact hK _ _ (h.push (g:=g) (cap:=cap) (by simpa [tokC] using h1) h2)
theorem t8_step {W1 wr:World} {v:Value} {l:List TokT} {t:TokT} {F:Fence} (hF:∀ f,F.fn f) (h:T8 W1 wr v l) {ops:Array Oper} {o:Oper} {a:Act} {K:Act→World→Prop} {Q:Exit→Act→World→Prop} (hgd:o.guard=none) (s x:Operand) (ho:o.op=.call { callee:=.builtin .append,args:=#[s,x],argTypes:=#[58,58] })
  (hs:a.eval s=v) (hx:a.eval x=.slice (some ⟨wr.heap.size,0,none⟩) 1 1) (hn:l.length≤1099511627776)
  (hK:∀ v' w',T8 W1 w' v' (l++[t])→K (a.put o.dst v') w'):if Region.wanted o (yielded ops a.tmps)=true then Oper.wpIn F 0 Tryz.prog o a (wr.alloc (.cells #[.int .u8 t.1,.string t.2.1,.int .i64 t.2.2] 81)) K Q else (∀ f,o.about Tryz.prog (wr.alloc (.cells #[.int .u8 t.1,.string t.2.1,.int .i64 t.2.2] 81)) a.eval=some f→F.fn f)∧K (a.put o.dst undef) (wr.alloc (.cells #[.int .u8 t.1,.string t.2.1,.int .i64 t.2.2] 81)):=by
 obtain⟨i0,hi,hz0,hz1,hz2⟩:=info_parts Tok.info
 have hb:=(Below.refl _ wr).alloc (Nat.le_refl _) (.cells #[.int .u8 t.1,.string t.2.1,.int .i64 t.2.2] 81)
 refine stepAny_lies _ hF hgd s x 58 ho W1.heap.size 81 i0 (.agg #[.int .u8 0,.string ⟨#[]⟩,.int .i64 0]) 3 32 Tryz.underlying58 hi hz0 hz1 hz2 rfl (by decide) v l.length (l.flatMap tokC) hs (own_below h.own hb) ⟨wr.heap.size,0,none⟩ 1 1 [.int .u8 t.1,.string t.2.1,.int .i64 t.2.2] hx rfl (World.news_of_block (cs:=#[.int .u8 t.1,.string t.2.1,.int .i64 t.2.2]) (t:=81) (fr:=(0,0)) (heap_alloc_new wr _)) (by intro u hu;simp at hu;rcases hu with rfl | rfl | rfl <;> rfl) (by decide) (by unfold maxLen;omega) (by omega) (by rw [World.size_alloc];have:=h.bel.size;omega) ?_
 intro g cap w' h1 h2 h3
 exact hK _ _ (h.push (g:=g) (cap:=cap) (by simpa [tokC] using h1) h2)
theorem wrapT8 {k n:Nat} (h:k<n) (hn:n≤1000000000):wrap64 ((k:Int)+1)=(k:Int)+1:=by unfold wrap64;omega
theorem measT8 {k n:Nat} (h:k<n):n - (intOf (.int .i64 ((k:Int)+1))).toNat<n - (intOf (.int .i64 (k:Int))).toNat:=by simp [intOf];omega
theorem then_normalT8 {K:Act→World→Prop} {Q:Exit→Act→World→Prop} {a:Act} {w:World}:Exit.then K Q .normal a w=K a w:=rfl
theorem inBlock_T8 {n:Nat} {Q:Exit→Act→World→Prop} {a:Act} {w:World}:Exit.inBlock n Q .normal a w=Q .normal a w:=rfl
set_option maxHeartbeats 8000000 in
theorem refTokens8_any (x:InstT) (ax:Option Addr) (n cx:Nat) (w:World) (hv:ArgsV w ax x.2.2.2) (hl:x.2.2.2.length=n) (hn:n≤1000000000) (hx:InstOk x) (hk:(lookF refT x.1).2=true) (ht:Pow10 w) :
  Calls Tryz.prog 26 #[instV x ax n cx] w fun e w'=>∃ a m c,e=.returned (.slice a m c)∧ToksV w' a (tksI x)∧(tksI x).length=m∧Below w.heap.size w w':=by
 have hOf:=fun wx=>refOf_any x.1 wx
 unfold ofV formV at hOf
 rw [hk,if_pos rfl] at hOf
 have HX:=hide hx
 have HL:=hide hl
 have HTK:Hid (tksI x=preTk (lookF refT x.1).1 x++argTks (lookF refT x.1).1 x.2.2.2):=rfl
 have HLE:=hide fun (i:Int) wx (h:i<9223372036854775808)=>refLetter_any x.1 i wx h
 generalize tksI x=RES at *
 generalize hfe:(lookF refT x.1).1=f at *
 clear hfe hk
 obtain⟨nm,ty,rs,fx,rp,mo,pa⟩:=f
 obtain⟨xo,xt,xr,l⟩:=x
 unfold instV
 simp only at *
 have hba:Below w.heap.size w (w.alloc (.cells #[.int .u16 xo,.int .u32 xt,.int .u32 xr,.slice ax n cx] 38)):=(Below.refl _ w).alloc (Nat.le_refl _) _
 have k0:=heap_alloc_new w (.cells #[.int .u16 xo,.int .u32 xt,.int .u32 xr,.slice ax n cx] 38)
 have HK0:=hide k0
 have HB0:=hide hba
 have hof:=hOf (w.alloc (.cells #[.int .u16 xo,.int .u32 xt,.int .u32 xr,.slice ax n cx] 38))
 have i0:=(one_block k0).1 0
 have HV:=hide hv
 have HT:=hide ht
 have HNN:=hide hn
 clear hba hOf k0 hv ht hx hl hn
 go_enter Tryz.func26,Tryz.ntmps26
 go_wp2_with fail
 generalize w.alloc (.cells #[.int .u16 xo,.int .u32 xt,.int .u32 xr,.slice ax n cx] 38)=W0 at *
 refine hof.mono ?_
 rintro e w1 ⟨rfl,hb1⟩
 dsimp only
 iterate 18 go_step
 generalize hW1:World.alloc w1 _=W1
 have hbW:Below w1.heap.size w1 W1:=by rw [← hW1];exact (Below.refl _ w1).alloc (Nat.le_refl _) _
 have k1:=heap_alloc_new w1 (.cells #[.int .u16 xo,.string nm,.bool ty,.bool rs,.string fx,.string rp,.int .i64 mo,.int .u8 pa] 66)
 rw [hW1] at k1
 have hb01:=hb1.trans (hbW.mono hb1.size)
 have K0:=hide ((hb01.block _ (Array.getElem?_eq_some_iff.1 HK0.out).1).trans HK0.out)
 have K1:=hide k1
 have HBW:=hide (HB0.out.trans (hb01.mono HB0.out.size))
 have T0:Hid (T8 W1 W1 (.slice none 0 0) []):=⟨Below.refl _ _,World.ownsRow_nil _ _ _ _⟩
 clear hof hb1 hW1 hbW k1 hb01 HK0 HB0 i0
 generalize w1.heap.size=B1 at *
 have HI:=hide fun wx (h:Below W1.heap.size W1 wx)=>(one_block ((h.block _ (Array.getElem?_eq_some_iff.1 K0.out).1).trans K0.out)).1
 have HFC:Hid (∀ wx,Below W1.heap.size W1 wx→wx.cell? ⟨B1,1,none⟩=some (.string nm)∧wx.cell? ⟨B1,2,none⟩=some (.bool ty)∧wx.cell? ⟨B1,3,none⟩=some (.bool rs)):=fun wx h=>by
  have q:=(one_block ((h.block _ (Array.getElem?_eq_some_iff.1 K1.out).1).trans K1.out)).1
  exact⟨q 1,q 2,q 3⟩
 have i2:=HI.out W1 (Below.refl _ _) 2
 obtain⟨c1,c2,c3⟩:=HFC.out W1 (Below.refl _ _)
 clear K1
 cases rs <;> cases ty
 case' false.false =>
  go_wp2_with (at_builtin;refine t8_app T0.out (t:=(1,nm,0)) rfl (.tmp 25) (.tmp 29) rfl rfl rfl (by simp) ?_)
  intro vL WL h
  have T4:=hide h
  clear h T0
  clear c1 c2 c3
  obtain⟨c1,c2,c3⟩:=HFC.out _ T4.out.bel
  have i1:=HI.out _ T4.out.bel 1
  have TL:Hid (T8 W1 WL vL (preTk (nm,false,false,fx,rp,mo,pa) (xo,xt,xr,l))):=by show T8 _ _ _ _;have:=T4.out;simpa [preTk] using this
  clear T4
  have HPL:Hid ((preTk (nm,false,false,fx,rp,mo,pa) (xo,xt,xr,l)).length≤4):=by show _≤_;simp [preTk]
  go_wp2_with fail
  clear c1 c2 c3 i1
 case' false.true =>
  go_wp2_with (at_builtin;refine t8_app T0.out (t:=(1,nm,0)) rfl (.tmp 25) (.tmp 29) rfl rfl rfl (by simp) ?_)
  intro v5 w5 h
  have T4:=hide h
  clear h T0
  clear c1 c2 c3
  obtain⟨c1,c2,c3⟩:=HFC.out _ T4.out.bel
  have i1:=HI.out _ T4.out.bel 1
  go_wp2_with fail
  refine (refId8_any xt w5 HX.out.2.2.1 HX.out.2.2.2.1 (HT.out.below (HBW.out.trans (T4.out.bel.mono HBW.out.size)))).mono ?_
  rintro e w6 ⟨rfl,hb⟩
  have T5:=hide (T4.out.below hb)
  clear hb T4 i1 c1 c2 c3
  unfold tokV
  go_wp2_with (at_builtin;refine t8_app T5.out (t:=(2,dgS xt,0)) rfl (.tmp 33) (.tmp 37) rfl rfl rfl (by simp) ?_)
  intro vL WL h
  have T6:=hide h
  clear h T5
  have TL:Hid (T8 W1 WL vL (preTk (nm,true,false,fx,rp,mo,pa) (xo,xt,xr,l))):=by show T8 _ _ _ _;have:=T6.out;simpa [preTk] using this
  clear T6
  have HPL:Hid ((preTk (nm,true,false,fx,rp,mo,pa) (xo,xt,xr,l)).length≤4):=by show _≤_;simp [preTk]
  go_wp2_with fail
 case' true.false =>
  go_wp2_with fail
  refine (refId8_any xr W1 HX.out.2.2.2.2.1 HX.out.2.2.2.2.2.1 (HT.out.below HBW.out)).mono ?_
  rintro e w2 ⟨rfl,hb⟩
  have T1:=hide (T0.out.below hb)
  clear hb T0 i2 c1 c2 c3
  unfold tokV
  go_wp2_with (at_builtin;refine t8_app T1.out (t:=(2,dgS xr,0)) rfl (.tmp 15) (.tmp 19) rfl rfl rfl (by simp) ?_)
  intro v3 w3 h
  have T2:=hide h
  clear h T1
  go_wp2_with (at_builtin;refine t8_app T2.out (t:=(5,eqS,0)) rfl (.tmp 21) (.tmp 23) rfl rfl rfl (by simp) ?_)
  intro v4 w4 h
  have T3:=hide h
  clear h T2
  obtain⟨c1,c2,c3⟩:=HFC.out _ T3.out.bel
  go_wp2_with (at_builtin;refine t8_app T3.out (t:=(1,nm,0)) rfl (.tmp 25) (.tmp 29) rfl rfl rfl (by simp) ?_)
  intro vL WL h
  have T4:=hide h
  clear h T3
  clear c1 c2 c3
  obtain⟨c1,c2,c3⟩:=HFC.out _ T4.out.bel
  have i1:=HI.out _ T4.out.bel 1
  have TL:Hid (T8 W1 WL vL (preTk (nm,false,true,fx,rp,mo,pa) (xo,xt,xr,l))):=by show T8 _ _ _ _;have:=T4.out;simpa [preTk] using this
  clear T4
  have HPL:Hid ((preTk (nm,false,true,fx,rp,mo,pa) (xo,xt,xr,l)).length≤4):=by show _≤_;simp [preTk]
  go_wp2_with fail
  clear c1 c2 c3 i1
 case' true.true =>
  go_wp2_with fail
  refine (refId8_any xr W1 HX.out.2.2.2.2.1 HX.out.2.2.2.2.2.1 (HT.out.below HBW.out)).mono ?_
  rintro e w2 ⟨rfl,hb⟩
  have T1:=hide (T0.out.below hb)
  clear hb T0 i2 c1 c2 c3
  unfold tokV
  go_wp2_with (at_builtin;refine t8_app T1.out (t:=(2,dgS xr,0)) rfl (.tmp 15) (.tmp 19) rfl rfl rfl (by simp) ?_)
  intro v3 w3 h
  have T2:=hide h
  clear h T1
  go_wp2_with (at_builtin;refine t8_app T2.out (t:=(5,eqS,0)) rfl (.tmp 21) (.tmp 23) rfl rfl rfl (by simp) ?_)
  intro v4 w4 h
  have T3:=hide h
  clear h T2
  obtain⟨c1,c2,c3⟩:=HFC.out _ T3.out.bel
  go_wp2_with (at_builtin;refine t8_app T3.out (t:=(1,nm,0)) rfl (.tmp 25) (.tmp 29) rfl rfl rfl (by simp) ?_)
  intro v5 w5 h
  have T4:=hide h
  clear h T3
  clear c1 c2 c3
  obtain⟨c1,c2,c3⟩:=HFC.out _ T4.out.bel
  have i1:=HI.out _ T4.out.bel 1
  go_wp2_with fail
  refine (refId8_any xt w5 HX.out.2.2.1 HX.out.2.2.2.1 (HT.out.below (HBW.out.trans (T4.out.bel.mono HBW.out.size)))).mono ?_
  rintro e w6 ⟨rfl,hb⟩
  have T5:=hide (T4.out.below hb)
  clear hb T4 i1 c1 c2 c3
  unfold tokV
  go_wp2_with (at_builtin;refine t8_app T5.out (t:=(2,dgS xt,0)) rfl (.tmp 33) (.tmp 37) rfl rfl rfl (by simp) ?_)
  intro vL WL h
  have T6:=hide h
  clear h T5
  have TL:Hid (T8 W1 WL vL (preTk (nm,true,true,fx,rp,mo,pa) (xo,xt,xr,l))):=by show T8 _ _ _ _;have:=T6.out;simpa [preTk] using this
  clear T6
  have HPL:Hid ((preTk (nm,true,true,fx,rp,mo,pa) (xo,xt,xr,l)).length≤4):=by show _≤_;simp [preTk]
  go_wp2_with fail
 all_goals
  clear HFC
  generalize preTk _ (xo,xt,xr,l)=PRE at *
  generalize ((nm,_,_,fx,rp,mo,pa):Frm)=f at *
  go_loopw [5,6] (fun v i wr=>∃ k:Nat,k≤n∧i=.int .i64 k∧T8 W1 wr v (PRE++(argTks f l).take k)) (fun _ i _=>n - (intOf i).toNat)
  case atStart=>exact⟨0,Nat.zero_le _,rfl,by simpa using TL.out⟩
  case round =>
   obtain⟨k,hk,rfl,hR⟩:=hrel
   have HR:=hide hR
   have i3:=HI.out _ hR.bel 3
   clear TL
   by_cases hlt:k<n
   ·have hbr:=HBW.out.trans (hR.bel.mono HBW.out.size)
    obtain⟨b,off,rfl,hbs,a0,a1,a2⟩:=(HV.out.below HBW.out) k (by rw [HL.out];exact hlt)
    have HLT:=hide hlt
    have hki:(k:Int)<(n:Int):=by omega
    have hk0:(0:Int)≤(k:Int):=by omega
    have HFEW:Hid ((PRE++(argTks f l).take k).length≤1099511627776):=by
     show _≤_
     rw [List.length_append,List.length_take,argTks_len]
     have:=HPL.out;have:=HL.out;have:=HNN.out
     omega
    have hle:=hide fun wx=>HLE.out ((k:Nat):Int) wx (by have:=HNN.out;omega)
    have hyo:ArgOk (nthA l k):=HX.out.2.2.2.2.2.2.1 k (by have:=HL.out;simp only;omega)
    have har:=hide fun c wx (hp:Pow10 wx)=>refArgument8_any c (nthA l k) wx hyo hp
    unfold argV at har
    have HTN:=hide (argTks_snoc f l k (by rw [HL.out];exact hlt))
    generalize letterI f (k:Int)=cc at *
    generalize nthA l k=y at *
    obtain⟨y0,y1,y2⟩:=y
    simp only at a0 a1 a2 har
    obtain⟨t,hte⟩:∃ t,t=argTk cc (y0,y1,y2):=⟨_,rfl⟩
    rw [← hte] at HTN
    have har2:=hide (har.out cc)
    rw [← hte] at har2
    obtain⟨t0,t1,t2⟩:=t
    unfold tokV at har2
    simp only at har2
    have LC:Hid (∀ w',Below W1.heap.size W1 w'→w'.cell? ⟨w.heap.size,0,none⟩=some (.int .u16 xo)∧w'.cell? ⟨w.heap.size,3,none⟩=some (.slice (some ⟨b,off,none⟩) n cx)∧w'.cell? ⟨b,off+k * 3,none⟩=some (.int .u8 y0)∧w'.cell? ⟨b,off+k * 3+1,none⟩=some (.int .u32 y1)∧w'.cell? ⟨b,off+k * 3+2,none⟩=some (.string y2)):=fun w' h=>by
     have q:=HI.out w' h
     exact⟨q 0,q 3,(h.cell (p:=⟨b,off+k * 3,none⟩) hbs).trans a0,(h.cell (p:=⟨b,off+k * 3+1,none⟩) hbs).trans a1,(h.cell (p:=⟨b,off+k * 3+2,none⟩) hbs).trans a2⟩
    have hw:=wrapT8 HLT.out HNN.out
    clear hR hbs hyo har hte hlt hk a0 a1 a2 hbr
    go_wp2_with fail
    have hC0:Below wr.heap.size wr wr.drew:=(Below.refl _ wr).drew
    have hG0:=LC.out wr.drew (HR.out.below hC0).bel
    have hmix:Tryz.prog.follows .mixedOrders=true:=by kernel_rfl
    refine (wpIn_wide (n:=0)).1 ?_
    refine wpIn_normal (wpIn_region_any hmix (wpAnyE_sound (C:=fun w'=>w'.cell? ⟨w.heap.size,0,none⟩=some (.int .u16 xo)∧w'.cell? ⟨w.heap.size,3,none⟩=some (.slice (some ⟨b,off,none⟩) n cx)∧w'.cell? ⟨b,off+k * 3,none⟩=some (.int .u8 y0)∧w'.cell? ⟨b,off+k * 3+1,none⟩=some (.int .u32 y1)∧w'.cell? ⟨b,off+k * 3+2,none⟩=some (.string y2)) (E:=fun _=>false) _ _ _ _ ?_))
    change wpAnyE _ _ _ _ _ _ _ _ _ _ _ (World.drew _)
    refine wpAnyE_takeD (i:=0) (some 46) (v:=(u5)) (fun _=>trivial) (by kernel_rfl) rfl rfl (by kernel_rfl) (by kernel_rfl) (by kernel_rfl) (by kernel_rfl) (fun _ _ _ h=>by cases h.1) hG0 (Or.inl ⟨by kernel_rfl,fun w' hC=>by obtain⟨e0,e1,e2,e3,e4⟩:=hC;go_simp⟩) ?_
    simp only [Act.put,ap1,ap2,ap3]
    refine wpAnyE_takeD (i:=1) (some 47) (v:=(.pointer (some ⟨w.heap.size,0,none⟩))) (fun _=>trivial) (by kernel_rfl) rfl rfl (by kernel_rfl) (by kernel_rfl) (by kernel_rfl) (by kernel_rfl) (fun _ _ _ h=>by cases h.1) hG0 (Or.inl ⟨by kernel_rfl,fun w' hC=>by obtain⟨e0,e1,e2,e3,e4⟩:=hC;go_simp⟩) ?_
    simp only [Act.put,ap1,ap2,ap3]
    refine wpAnyE_takeD (i:=2) (some 48) (v:=(.int .u16 xo)) (fun _=>trivial) (by kernel_rfl) rfl rfl (by kernel_rfl) (by kernel_rfl) (by kernel_rfl) (by kernel_rfl) (fun _ _ _ h=>by cases h.1) hG0 (Or.inl ⟨by kernel_rfl,fun w' hC=>by obtain⟨e0,e1,e2,e3,e4⟩:=hC;go_simp⟩) ?_
    simp only [Act.put,ap1,ap2,ap3]
    refine wpAnyE_takeD (i:=3) (some 49) (v:=(.int .i64 (k:Int))) (fun _=>trivial) (by kernel_rfl) rfl rfl (by kernel_rfl) (by kernel_rfl) (by kernel_rfl) (by kernel_rfl) (fun _ _ _ h=>by cases h.1) hG0 (Or.inl ⟨by kernel_rfl,fun w' hC=>by obtain⟨e0,e1,e2,e3,e4⟩:=hC;go_simp⟩) ?_
    simp only [Act.put,ap1,ap2,ap3]
    refine wpAnyE_takeD (i:=5) (some 51) (v:=(.pointer (some ⟨w.heap.size,3,none⟩))) (fun _=>trivial) (by kernel_rfl) rfl rfl (by kernel_rfl) (by kernel_rfl) (by kernel_rfl) (by kernel_rfl) (fun _ _ _ h=>by cases h.1) hG0 (Or.inl ⟨by kernel_rfl,fun w' hC=>by obtain⟨e0,e1,e2,e3,e4⟩:=hC;go_simp⟩) ?_
    simp only [Act.put,ap1,ap2,ap3]
    refine wpAnyE_takeD (i:=6) (some 52) (v:=(.slice (some ⟨b,off,none⟩) n cx)) (fun _=>trivial) (by kernel_rfl) rfl rfl (by kernel_rfl) (by kernel_rfl) (by kernel_rfl) (by kernel_rfl) (fun _ _ _ h=>by cases h.1) hG0 (Or.inl ⟨by kernel_rfl,fun w' hC=>by obtain⟨e0,e1,e2,e3,e4⟩:=hC;go_simp⟩) ?_
    simp only [Act.put,ap1,ap2,ap3]
    refine wpAnyE_takeD (i:=7) (some 53) (v:=(.int .i64 (k:Int))) (fun _=>trivial) (by kernel_rfl) rfl rfl (by kernel_rfl) (by kernel_rfl) (by kernel_rfl) (by kernel_rfl) (fun _ _ _ h=>by cases h.1) hG0 (Or.inl ⟨by kernel_rfl,fun w' hC=>by obtain⟨e0,e1,e2,e3,e4⟩:=hC;go_simp⟩) ?_
    simp only [Act.put,ap1,ap2,ap3]
    refine wpAnyE_takeD (i:=8) (some 54) (v:=(.pointer (some ⟨b,off+k * 3,none⟩))) (fun _=>trivial) (by kernel_rfl) rfl rfl (by kernel_rfl) (by kernel_rfl) (by kernel_rfl) (by kernel_rfl) (fun _ _ _ h=>by cases h.1) hG0 (Or.inl ⟨by kernel_rfl,fun w' hC=>by obtain⟨e0,e1,e2,e3,e4⟩:=hC;go_simp⟩) ?_
    simp only [Act.put,ap1,ap2,ap3]
    refine wpAnyE_takeD (i:=9) (some 55) (v:=(.agg #[.int .u8 y0,.int .u32 y1,.string y2])) (fun _=>trivial) (by kernel_rfl) rfl rfl (by kernel_rfl) (by kernel_rfl) (by kernel_rfl) (by kernel_rfl) (fun _ _ _ h=>by cases h.1) hG0 (Or.inl ⟨by kernel_rfl,fun w' hC=>by obtain⟨e0,e1,e2,e3,e4⟩:=hC;go_simp⟩) ?_
    simp only [Act.put,ap1,ap2,ap3]
    refine wpAnyE_ready (rs:=[4]) (by kernel_rfl) (by simp) ?_
    refine AllE.cons rfl (fun Kk hK=>?_) AllE.nil
    go_simp
    refine⟨trivial,rfl,(callsIn_wide.2 (hle.out wr.drew)).mono ?_⟩
    rintro e w5 ⟨rfl,hb5⟩
    dsimp only
    have hC5:=hC0.trans (show Below wr.heap.size wr.drew w5 from hb5)
    refine hK _ _ (.inr (LC.out _ (HR.out.below hC5).bel)) ?_
    clear hK Kk hb5
    refine wpAnyE_ready (rs:=[10]) (by kernel_rfl) (by simp) ?_
    refine AllE.cons rfl (fun Kk hK=>?_) AllE.nil
    go_simp
    refine⟨trivial,rfl,(callsIn_wide.2 (har2.out w5 (HT.out.below (HBW.out.trans ((HR.out.below hC5).bel.mono HBW.out.size))))).mono ?_⟩
    rintro e w6 ⟨rfl,hb6⟩
    dsimp only
    have hC6:=hC5.trans (hb6.mono hC5.size)
    have hT6:=HR.out.below hC6
    refine hK _ _ (.inr (LC.out _ hT6.bel)) ?_
    clear hK Kk hb6
    refine wpAnyE_ready (rs:=[11]) (by kernel_rfl) (by simp) ?_
    refine AllE.cons rfl (fun Kk hK=>?_) AllE.nil
    go_simp
    refine hK _ _ (.inr (LC.out _ (hT6.below ((Below.refl _ w6).alloc (Nat.le_refl _) (.cells #[.int .u8 t0,.string t1,.int .i64 t2] 81))).bel)) ?_
    clear hK Kk
    refine wpAnyE_ready (rs:=[12]) (by kernel_rfl) (by simp) ?_
    refine AllE.cons rfl (fun Kk hK=>?_) AllE.nil
    refine t8_step (t:=(t0,t1,t2)) (fun _=>trivial) hT6 rfl (.tmp 46) (.tmp 57) rfl rfl rfl HFEW.out ?_
    intro v7 w7 hT7
    refine hK _ _ (.inr (LC.out _ hT7.bel)) ?_
    clear hK Kk
    simp only [Act.put,ap1,ap2,ap3]
    refine wpAnyE_ready (rs:=[13]) (by kernel_rfl) (by simp) ?_
    refine AllE.cons rfl (fun Kk hK=>?_) AllE.nil
    go_simp
    refine hK _ _ (.inr (LC.out _ hT7.bel)) ?_
    clear hK Kk
    refine wpAnyE_done (by kernel_rfl) ⟨rfl,?_⟩ _
    first | rw [then_normalT8] | rw [inBlock_T8] | skip
    have HT7:Hid (T8 W1 w7 v7 (PRE++(argTks f l).take (k+1))):=by
     show T8 _ _ _ _
     rw [HTN.out,← List.append_assoc]
     exact hT7
    clear hG0 hC0 hC5 hC6 hT6 hT7 hmix LC har2 hle
    go_wp2_with fail
    exact⟨⟨k+1,HLT.out,by first | (rw [hw];simp) | simp,HT7.out⟩,by first | (rw [hw];exact measT8 HLT.out) | exact measT8 HLT.out⟩
   ·have e:k=n:=by omega
    subst e
    have hfull:(argTks f l).take k=argTks f l:=List.take_of_length_le (by rw [argTks_len,HL.out];exact Nat.le_refl _)
    rw [hfull,← HTK.out] at hR
    obtain⟨a9,m9,c9,e9,hv9,hm9⟩:=toksV_own hR.own
    subst e9
    have HV9:=hide hv9
    have HM9:=hide hm9
    have HB9:=hide (HBW.out.trans (hR.bel.mono HBW.out.size))
    clear hfull hR HR hv9 hm9 hlt hk
    go_wp2_with fail
    go_ret
    exact⟨_,_,_,rfl,HV9.out,HM9.out,HB9.out⟩
end Go.Proofs.YtonhnflilfjkbaaGreatDoor
