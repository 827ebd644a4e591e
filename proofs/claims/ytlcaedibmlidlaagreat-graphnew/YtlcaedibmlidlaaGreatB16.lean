/-
  Texts in one: CodeRaws, WordsByteAt, WordsJoin, CodeEncode, Puts.
-/
import Derived.Test.YtlcaedibmlidlaaGreatB15
namespace Go.Proofs.YtlcaedibmlidlaaGreat
open Go.RowKit
set_option linter.unusedVariables false
set_option linter.unusedSimpArgs false
set_option maxRecDepth 10000
set_option maxHeartbeats 2000000 in
/-- Of a bound that may not be. -/
theorem raws_bad (gen bound:Int) (a:Option Addr) (n cap:Nat) (l:List InstT) (w:World) (hg0:0≤gen) (hg1:gen<4294967296) (hb0:0≤bound) (hb1:bound<4294967296) (hv:InstsV w a l) (hok:InstsOk l) (hl:l.length=n) (hn:40 * n≤140737488351232) (h1:bound=0∨65536<bound) :
  Calls Tryz.prog 129 #[modV gen bound a n cap] w fun e w'=>Below w.heap.size w w'∧∃ ax cx m,e=.returned (.tuple #[.slice ax m cx,.agg #[.int .i64 (shapeE bound l).1,.int .i64 (shapeE bound l).2]])∧(rawsR bound l).length=m∧m≤cx∧RawsV w' ax (rawsR bound l):=by
 have hH:=fun w=>headOf_any gen bound a n cap w
 have hW:=fun w=>writeC gen bound none 0 0 [] w hg0 hg1 hb0 hb1 rawsV_nil (fun j hj=>by simp at hj) rfl (by omega) (by omega)
 unfold modV at hH ⊢
 have HL:Hid (l.length=n):=hl
 have e1:writeE bound []=(24,0):=by unfold writeE;rw [if_pos h1]
 have e2:shapeE bound l=(24,0):=by unfold shapeE;rw [if_pos h1]
 have e3:rawsR bound l=[]:=by unfold rawsR;rw [e2];rfl
 rw [e1] at hW
 rw [e2,e3]
 clear e1 e2 e3 h1 hv hok hl
 go_enter Tryz.func129,Tryz.ntmps129
 go_wp2_with fail
 have hB0:Below w.heap.size w ((w.alloc (.cells #[.int .u32 gen,.int .u32 bound,.slice a n cap] 25)).alloc (.cells #[.int .i64 0,.int .i64 0] 33)):=((Below.refl _ w).alloc (Nat.le_refl _) _).alloc (by simp) _
 have kX:((w.alloc (.cells #[.int .u32 gen,.int .u32 bound,.slice a n cap] 25)).alloc (.cells #[.int .i64 0,.int .i64 0] 33)).heap[w.heap.size+1]?=some (.cells #[.int .i64 0,.int .i64 0] 33 (0,0)):=by simpa using alloc_new (w.alloc (.cells #[.int .u32 gen,.int .u32 bound,.slice a n cap] 25)) #[.int .i64 0,.int .i64 0] 33
 generalize (w.alloc (.cells #[.int .u32 gen,.int .u32 bound,.slice a n cap] 25)).alloc (.cells #[.int .i64 0,.int .i64 0] 33)=W0 at *
 have l0:=(Array.getElem?_eq_some_iff.1 kX).1
 refine (hH _).mono ?_
 rintro e w1 ⟨rfl,hb1'⟩
 have s1:=hb1'.size
 go_wp2_with fail
 refine (hW _).mono ?_
 rintro e w2 ⟨hb2,ax,cx,m,rfl,hm,hown⟩
 have s2:=hb2.size
 have hb3:Below w2.heap.size w2 (w2.alloc (.cells #[.int .i64 24,.int .i64 0] 33)):=(Below.refl _ _).alloc (Nat.le_refl _) _
 have hbA:=hb1'.trans ((hb2.trans (hb3.mono s2)).mono s1)
 have kX3:=(hbA.block _ l0).trans kX
 have kS:=alloc_new w2 #[.int .i64 24,.int .i64 0] 33
 have hbW:=hB0.trans (hbA.mono hB0.size)
 obtain⟨c0,c1,_⟩:=cell_of_two kX3
 have f0:=(one_block kX3).2 0
 have f1:=(one_block kX3).2 1
 obtain⟨d0,d1,_⟩:=cell_of_two kS
 have hne:w2.heap.size≠w.heap.size+1:=by omega
 clear hb1' hb2 hb3 hbA hown hm hH hW
 have hz:((0:Nat):Int)=0:=rfl
 go_wp2
 go_region
 go_wp2
 have hB:=two_put2 kX3 (.int .i64 24) (.int .i64 0)
 have hBel:=(hbW.trans ((two_below (w2.alloc (.cells #[.int .i64 24,.int .i64 0] 33)) (w.heap.size+1) (.int .i64 24) (.int .i64 0)).mono (by omega))).drew
 have hB':((((w2.alloc (.cells #[.int .i64 24,.int .i64 0] 33)).setCell ⟨w.heap.size+1,0,none⟩ (.int .i64 24)).setCell ⟨w.heap.size+1,1,none⟩ (.int .i64 0)).drew).heap[w.heap.size+1]?=some (.cells #[.int .i64 24,.int .i64 0] 33 (0,0)):=hB
 clear c0 c1 f0 f1 d0 d1 kX3 kS hB
 generalize (((w2.alloc (.cells #[.int .i64 24,.int .i64 0] 33)).setCell ⟨w.heap.size+1,0,none⟩ (.int .i64 24)).setCell ⟨w.heap.size+1,1,none⟩ (.int .i64 0)).drew=WF at hB' hBel ⊢
 obtain⟨g0,g1,_⟩:=cell_of_two hB'
 refine bodyPost_ret (v:=.tuple #[.slice none 0 0,.agg #[.int .i64 24,.int .i64 0]]) ?_ rfl ⟨hBel,none,0,0,rfl,rfl,Nat.le_refl _,rawsV_nil⟩
 simp [results,Tryz.results129,go_sem,g0,g1]
theorem Raws.info:(Tryz.prog.info? 217).map (fun i=>(i.zero,i.size,i.bytes))=some (some (.agg #[.int .u16 0,.slice none 0 0]),2,32):=by kernel_rfl
structure RawsS (w wr : World) (gen bound : Int) (a : Option Addr) (n cap : Nat) (v : Value) (rs : List (Int × List Int)) : Prop where
  row : ∃ cs, wr.ownsRow (w.heap.size + 2) 217 2 v rs.length cs ∧ RowO wr (w.heap.size + 2) v.ownBlock rs cs
  mbox : wr.heap[w.heap.size]? = some (.cells #[.int .u32 gen, .int .u32 bound, .slice a n cap] 25 (0, 0))
  sbox : wr.heap[w.heap.size + 1]? = some (.cells #[.int .i64 0, .int .i64 0] 33 (0, 0))
  bel : Below w.heap.size w wr
theorem RawsS.below {w wr wr':World} {gen bound:Int} {a:Option Addr} {n cap:Nat} {v:Value} {rs:List (Int×List Int)} (h:RawsS w wr gen bound a n cap v rs) (hb:Below wr.heap.size wr wr'):RawsS w wr' gen bound a n cap v rs:=by
 obtain⟨cs,h1,h2⟩:=h.row
 exact⟨⟨cs,own_below h1 hb,h2.below hb⟩,(hb.block _ (Array.getElem?_eq_some_iff.1 h.mbox).1).trans h.mbox,(hb.block _ (Array.getElem?_eq_some_iff.1 h.sbox).1).trans h.sbox,h.bel.trans (hb.mono h.bel.size)⟩
theorem RawsS.push {w wr W w6:World} {gen bound:Int} {a:Option Addr} {n cap:Nat} {v v':Value} {rs:List (Int×List Int)} {cs:List Value} {op:Int} {ms:List Int} {aj:Option Addr} {nj cj g':Nat} (h:RawsS w wr gen bound a n cap v rs) (h1:wr.ownsRow (w.heap.size+2) 217 2 v rs.length cs) (h2:RowO wr (w.heap.size+2) v.ownBlock rs cs)
  (hb:Below wr.heap.size wr W) (hs:W.ownsRow wr.heap.size 22 1 (.slice aj nj cj) nj (ms.map (Value.int .u32))) (hl:ms.length=nj) (hg:W.grownBy w6 v.ownBlock) (hat:v.ownBlock=some g'∨g'=W.heap.size) (hv':v'.ownBlock=some g')
  (hown:w6.ownsRow (w.heap.size+2) 217 2 v' (rs.length+1) (cs++[.int .u16 op,.slice aj nj cj])):RawsS w w6 gen bound a n cap v' (rs++[(op,ms)]):=by
 have hlo:∀ g,v.ownBlock=some g→w.heap.size+2≤g∧g<wr.heap.size:=fun g e=>h1.lt g e
 have hl1:=(Array.getElem?_eq_some_iff.1 h.sbox).1
 have hS:=h.below hb
 have hl2:=(Array.getElem?_eq_some_iff.1 hS.sbox).1
 refine⟨⟨_,by rw [List.length_append];exact hown,by rw [hv'];exact h2.push hb hs hl (fun b e=>(hlo b e).2) (by omega) hg hat⟩,?_,?_,?_⟩
 ·exact (hg.block _ (by omega) (fun e=>by have:=(hlo _ e.symm).1;omega)).trans hS.mbox
 ·exact (hg.block _ hl2 (fun e=>by have:=(hlo _ e.symm).1;omega)).trans hS.sbox
 ·exact hS.bel.grown hg hS.bel.size (fun k e=>by have:=(hlo k e).1;omega)
theorem spot_store {w wr:World} {gen bound:Int} {a:Option Addr} {n cap:Nat} {v:Value} {rs:List (Int×List Int)} (h:RawsS w wr gen bound a n cap v rs):wr.cell? ⟨w.heap.size+1,0,none⟩=some (.int .i64 0)∧wr.cell? ⟨w.heap.size+1,1,none⟩=some (.int .i64 0)∧wr.frozen? ⟨w.heap.size+1,0,none⟩=false∧wr.frozen? ⟨w.heap.size+1,1,none⟩=false:=by
 obtain⟨hc,hf⟩:=one_block h.sbox
 exact⟨hc 0,hc 1,hf 0,hf 1⟩
set_option maxHeartbeats 4000000 in
/-- Of a bound that may be. -/
theorem raws_ok (gen bound:Int) (a:Option Addr) (n cap:Nat) (l:List InstT) (w:World) (hg0:0≤gen) (hg1:gen<4294967296) (hb0:0≤bound) (hb1:bound<4294967296) (hv:InstsV w a l) (hok:InstsOk l) (hl:l.length=n) (hn:40 * n≤140737488351232) (h1:¬ (bound=0∨65536<bound)) :
  Calls Tryz.prog 129 #[modV gen bound a n cap] w fun e w'=>Below w.heap.size w w'∧∃ ax cx m,e=.returned (.tuple #[.slice ax m cx,.agg #[.int .i64 (shapeE bound l).1,.int .i64 (shapeE bound l).2]])∧(rawsR bound l).length=m∧m≤cx∧RawsV w' ax (rawsR bound l):=by
 obtain⟨i0,hi,hz0,hz1,hz2⟩:=info_parts Raws.info
 have HI:Hid (Tryz.prog.info? 217=some i0∧i0.zero=some (.agg #[.int .u16 0,.slice none 0 0])∧i0.size=2∧i0.bytes=32):=⟨hi,hz0,hz1,hz2⟩
 clear hi hz0 hz1 hz2
 have hH:=fun w=>headOf_any gen bound a n cap w
 have hW:=fun w=>writeC gen bound none 0 0 [] w hg0 hg1 hb0 hb1 rawsV_nil (fun j hj=>by simp at hj) rfl (by omega) (by omega)
 unfold modV at hH ⊢
 have HL:Hid (l.length=n):=hl
 have e1:writeE bound []=(0,0):=by unfold writeE;rw [if_neg h1];rfl
 have e2:writeL gen bound []=[119734787,65536,gen,bound,0]:=by unfold writeL;rw [e1];rfl
 rw [e1,e2] at hW
 have HE:Hid (shapeE bound l=shapeF bound 0 5 l):=by show _=_;unfold shapeE;rw [if_neg h1]
 have HV:Hid (InstsV w a l):=hv
 have HOK:Hid (InstsOk l):=hok
 clear e1 e2 h1 hv hok hl
 obtain⟨E,hE⟩:∃ E,E=shapeE bound l:=⟨_,rfl⟩
 obtain⟨RR,hRR⟩:∃ RR,RR=rawsR bound l:=⟨_,rfl⟩
 rw [← hE,← hRR]
 have HEE:Hid (E=shapeE bound l):=hE
 have HRR:Hid (RR=rawsR bound l):=hRR
 clear hE hRR
 go_enter Tryz.func129,Tryz.ntmps129
 go_wp2_with fail
 have hB0:Below w.heap.size w ((w.alloc (.cells #[.int .u32 gen,.int .u32 bound,.slice a n cap] 25)).alloc (.cells #[.int .i64 0,.int .i64 0] 33)):=((Below.refl _ w).alloc (Nat.le_refl _) _).alloc (by simp) _
 have hS0:RawsS w ((w.alloc (.cells #[.int .u32 gen,.int .u32 bound,.slice a n cap] 25)).alloc (.cells #[.int .i64 0,.int .i64 0] 33)) gen bound a n cap (.slice none 0 0) [] :=
  ⟨⟨[],World.ownsRow_nil _ _ _ _,rowO_nil⟩,(Below.heap_alloc _ _ _ (by simp)).trans (alloc_new w _ _),by simpa using alloc_new (w.alloc (.cells #[.int .u32 gen,.int .u32 bound,.slice a n cap] 25)) #[.int .i64 0,.int .i64 0] 33,hB0⟩
 clear hB0
 generalize (w.alloc (.cells #[.int .u32 gen,.int .u32 bound,.slice a n cap] 25)).alloc (.cells #[.int .i64 0,.int .i64 0] 33)=W0 at *
 refine (hH _).mono ?_
 rintro e w1 ⟨rfl,hb1'⟩
 have hS1:=hS0.below hb1'
 clear hS0 hb1' hH
 go_wp2_with fail
 refine (hW _).mono ?_
 rintro e w2 ⟨hb2,ax,cx,m,rfl,hm,hown⟩
 obtain rfl:5=m:=hm
 have hS2:=hS1.below hb2
 have hS3:=hS2.below ((Below.refl _ w2).alloc (Nat.le_refl _) (.cells #[.int .i64 0,.int .i64 0] 33))
 obtain⟨d0,d1,_⟩:=cell_of_two (alloc_new w2 #[.int .i64 0,.int .i64 0] 33)
 have m2:=(one_block hS3.mbox).1 2
 have HS3:Hid _:=hS3
 clear hS1 hb2 hS2 hS3 hown hW
 go_wp2
 go_loopw [6,7,27] (fun c v i wr=>∃ k:Nat,k≤n∧i=.int .i64 k∧c=.int .i64 (sizeTo (rawsL bound l) k)∧sizeTo (rawsL bound l) k≤1048576∧E=shapeF bound k (sizeTo (rawsL bound l) k) (l.drop k)∧RawsS w wr gen bound a n cap v (rawsL bound (l.take k))) (fun _ _ i _=>n - (intOf i).toNat)
 case atStart=>exact⟨0,Nat.zero_le _,rfl,rfl,by rw [sizeTo_zero];decide,by rw [HEE.out,HE.out,sizeTo_zero];rfl,HS3.out⟩
 case round =>
  obtain⟨k,hk,rfl,rfl,hsz,hEk,hS⟩:=hrel
  clear HS3 d0 d1 m2 HE
  have HEK:Hid (E=shapeF bound k (sizeTo (rawsL bound l) k) (l.drop k)):=hEk
  clear hEk
  have hA:=HV.out.below hS.bel
  obtain⟨a',cap',rfl⟩:∃ a cap,u7=.slice a (rawsL bound (l.take k)).length cap:=by
   obtain⟨cs,h1,_⟩:=hS.row
   rcases h1.2 with ⟨rfl,h0⟩ | ⟨g,cap,cur,rfl,_⟩
   ·exact⟨none,0,by rw [h0]⟩
   ·exact⟨_,_,rfl⟩
  have hlk:(rawsL bound (l.take k)).length=k:=by rw [rawsL_len,List.length_take,HL.out];omega
  rw [hlk] at hS ⊢
  by_cases hlt:k<n
  ·have hkl:k<l.length:=by rw [HL.out];exact hlt
   obtain⟨b1,o1,aj,cj,nj,rfl,hbl,p1,p2,p3,p4,p5,p6,p7⟩:=hA k hkl
   have hEs:=shape_step bound l k hkl
   have hss:=sizeTo_succ (rawsL bound l) k (by rw [rawsL_len];exact hkl)
   rw [nthR_raws bound l k hkl] at hss
   have htk:=rawsL_take bound l k hkl
   have hRn:=HRR.out
   have hox:=HOK.out k hkl
   have hRaw:=fun wx (hx:Below wr.heap.size wr wx)=>raw_any (nthI l k) bound aj nj cj wx (p6.below hx) hox p5
   have hEk:=HEK.out
   rw [hEs] at hEk
   have HEK2:Hid _:=hEk
   have HSS:Hid _:=hss
   have HTK:Hid _:=htk
   have hro:rawE (nthI l k) bound=0→rawO (nthI l k) bound=(nthI l k).1:=fun h=>by unfold rawO;rw [if_pos h]
   clear hEs hss htk HEK hEk hRn hA p6 hox
   generalize hx:nthI l k=x at *
   have hki:(k:Int)<(n:Int):=by omega
   have hk0:(0:Int)≤(k:Int):=by omega
   obtain⟨xo,xt,xr,xl⟩:=x
   unfold instV at hRaw
   simp only at *
   have mb:=(one_block (hS.below ((Below.refl _ wr).alloc (Nat.le_refl _) (.cells #[.int .u16 xo,.int .u32 xt,.int .u32 xr,.slice aj nj cj] 63))).mbox).1 1
   have hbA:Below wr.heap.size wr (wr.alloc (.cells #[.int .u16 xo,.int .u32 xt,.int .u32 xr,.slice aj nj cj] 63)):=(Below.refl _ wr).alloc (Nat.le_refl _) _
   have hC:=hRaw _ hbA
   go_wp2_with fail
   generalize wr.alloc (.cells #[.int .u16 xo,.int .u32 xt,.int .u32 xr,.slice aj nj cj] 63)=WA at *
   refine hC.mono ?_
   rintro e w5 ⟨hb5,a5,m5,c5,rfl,hm5,hown5⟩
   have hbB:Below wr.heap.size wr w5:=hbA.trans (hb5.mono hbA.size)
   have hS5:=hS.below hbB
   have hown5':=own_lo hown5 hbA.size
   clear hC hRaw hb5 hbA mb p1 p2 p3 p4 hown5
   have HM5:Hid _:=hm5
   by_cases hr:rawE (xo,xt,xr,xl) bound=0
   ·have hro':=hro hr
    rw [hr,hro']
    have hEk:=HEK2.out
    rw [if_neg (by simp [hr])] at hEk
    have HEK3:Hid _:=hEk
    clear hro hro' hEk HEK2
    have hbC:Below wr.heap.size wr (w5.alloc (.cells #[.int .u16 xo,.slice a5 m5 c5] 217)):=hbB.alloc hbB.size _
    obtain⟨q0,q1,_⟩:=cell_of_two (alloc_new w5 #[.int .u16 xo,.slice a5 m5 c5] 217)
    have hss:(sizeTo (rawsL bound l) (k+1):Nat)=sizeTo (rawsL bound l) k+1+m5:=by rw [HSS.out,HM5.out]
    have hm5b:m5<65535:=by rw [← HM5.out];exact rawWs_len _ _
    by_cases hbig:1048576<sizeTo (rawsL bound l) (k+1)
    ·have hE4:E=(4,k):=by rw [HEK3.out,if_pos hbig]
     have hbig':(1048576:Int)<(sizeTo (rawsL bound l) k:Int)+(1+(m5:Int)):=by omega
     generalize sizeTo (rawsL bound l) k=sz at *
     clear hbC hbig hss HEK3 HSS HTK hr HM5 hm5
     have hR:RR=[]:=by rw [HRR.out,rawsR,← HEE.out,hE4,if_neg (by first | exact hr | simp)]
     subst hR hE4
     have hS6:=hS5.below ((Below.refl _ w5).alloc (Nat.le_refl _) (.cells #[.int .u16 xo,.slice a5 m5 c5] 217))
     obtain⟨s0,s1,f0,f1⟩:=spot_store hS6
     have hB3:=two_put2 hS6.sbox (.int .i64 4) (.int .i64 (k:Int))
     have hBel:=hS6.bel.trans ((two_below (w5.alloc (.cells #[.int .u16 xo,.slice a5 m5 c5] 217)) (w.heap.size+1) (.int .i64 4) (.int .i64 (k:Int))).mono (by omega))
     have HB3:Hid _:=hB3
     have HBel:Hid _:=hBel
     clear hS6 hS5 hS hbB hown5' hB3 hBel HRR HEE HV HOK
     go_wp2
     have hB3:=HB3.out
     have hBel:=HBel.out
     clear HB3 HBel s0 s1 f0 f1
     generalize ((w5.alloc _).setCell _ _).setCell _ _=W at hB3 hBel ⊢
     obtain⟨hd,_⟩:=one_block hB3
     have d0:=hd 0
     have d1:=hd 1
     refine bodyPost_ret (v:=.tuple #[.slice none 0 0,.agg #[.int .i64 4,.int .i64 (k:Int)]]) ?_ rfl ⟨hBel,none,0,0,rfl,rfl,Nat.le_refl _,rawsV_nil⟩
     simp [results,Tryz.results129,go_sem,d0,d1]
    ·have hE5:E=shapeF bound (k+1) (sizeTo (rawsL bound l) (k+1)) (l.drop (k+1)):=by rw [HEK3.out,if_neg hbig]
     have HE5:Hid _:=hE5
     have hbig':¬ (1048576:Int)<(sizeTo (rawsL bound l) k:Int)+(1+(m5:Int)):=by omega
     have HBG:Hid (sizeTo (rawsL bound l) (k+1)≤1048576):=by show _≤_;omega
     have HSK:Hid ((sizeTo (rawsL bound l) k:Int)+(1+(m5:Int))=(sizeTo (rawsL bound l) (k+1):Nat)):=by show _=_;omega
     obtain⟨cs,hc1,hc2⟩:=hS.row
     have N0:Below wr.heap.size wr ((w5.alloc (.cells #[.int .u16 xo,.slice a5 m5 c5] 217)).alloc (.cells #[.int .u16 xo,.slice a5 m5 c5] 217)):=hbC.alloc hbC.size _
     have N1:Hid (((w5.alloc (.cells #[.int .u16 xo,.slice a5 m5 c5] 217)).alloc (.cells #[.int .u16 xo,.slice a5 m5 c5] 217)).ownsRow (w.heap.size+2) 217 2 (.slice a' k cap') k cs):=own_below (by rw [hlk] at hc1;exact hc1) N0
     have N2:Hid (∀ (j:Nat) (u:Value),[Value.int .u16 xo,.slice a5 m5 c5][j]?=some u→((w5.alloc (.cells #[.int .u16 xo,.slice a5 m5 c5] 217)).alloc (.cells #[.int .u16 xo,.slice a5 m5 c5] 217)).cell? ((⟨w5.heap.size+1,0,none⟩:Addr).add j)=some u):=World.news_of_block (cs:=#[.int .u16 xo,.slice a5 m5 c5]) (t:=217) (fr:=(0,0)) (by first | exact alloc_new _ _ _ | simpa using alloc_new (w5.alloc (.cells #[.int .u16 xo,.slice a5 m5 c5] 217)) #[.int .u16 xo,.slice a5 m5 c5] 217)
     have N3:Hid (∀ u:Value,u∈[Value.int .u16 xo,.slice a5 m5 c5]→u.oneCell'=true):=by intro u hu;simp at hu;rcases hu with rfl | rfl <;> rfl
     have N4:k+1≤maxLen:=by unfold maxLen;omega
     have N5:(k+1) * 32≤140737488355328:=by omega
     have hl1:=(Array.getElem?_eq_some_iff.1 hS.sbox).1
     have N6:Hid (w.heap.size+2≤((w5.alloc (.cells #[.int .u16 xo,.slice a5 m5 c5] 217)).alloc (.cells #[.int .u16 xo,.slice a5 m5 c5] 217)).heap.size):=by show _≤_;have:=N0.size;omega
     have N7:Hid (((w5.alloc (.cells #[.int .u16 xo,.slice a5 m5 c5] 217)).alloc (.cells #[.int .u16 xo,.slice a5 m5 c5] 217)).ownsRow wr.heap.size 22 1 (.slice a5 m5 c5) m5 ((rawWs (xo,xt,xr,xl) bound).map (Value.int .u32))):=own_below (own_below hown5' ((Below.refl _ w5).alloc (Nat.le_refl _) _)) ((Below.refl _ _).alloc (Nat.le_refl _) _)
     have HN0:Hid _:=N0
     have HS:Hid _:=hS
     have HC1:Hid _:=hc1
     have HC2:Hid _:=hc2
     have HLK:Hid _:=hlk
     clear hS hS5 hbB hbC hown5' N0 hc1 hc2 hss hbig hr HEK3 hE5 hm5 hlk hl1
     generalize sizeTo (rawsL bound l) k=sz at *
     go_wp2_with (at_builtin;refine wpList_append_lies _ rfl (.tmp 54) (.tmp 56) 187 rfl (w.heap.size+2) 217 i0 (.agg #[.int .u16 0,.slice none 0 0]) 2 32 Tryz.underlying187 HI.out.1 HI.out.2.1 HI.out.2.2.1 HI.out.2.2.2 rfl (by decide) (.slice a' k cap') k cs rfl N1.out ⟨w5.heap.size+1,0,none⟩ 1 1 [.int .u16 xo,.slice a5 m5 c5] rfl rfl N2.out N3.out (by decide) N4 N5 N6.out _ rfl ?_)
     intro g6 cap6 w6 hown6 hgr6 hat6 hlt6
     have hS6:=HS.out.push (v':=.slice (some ⟨g6,0,none⟩) (k+1) cap6) HC1.out HC2.out HN0.out N7.out HM5.out hgr6 (by simpa using hat6) rfl (by rw [HLK.out];exact hown6)
     rw [← HTK.out] at hS6
     have HS6:Hid _:=hS6
     clear hS6 hown6 hgr6 hat6 N1 N2 N3 N6 N7 HN0 HS HC1 HC2 q0 q1
     go_wp2
     go_roundw
     case rel=>exact⟨k+1,by omega,by go_num,by first | exact congrArg (Value.int .i64) HSK.out | (rw [← HSK.out]),HBG.out,HE5.out,HS6.out⟩
     case measure=>simp [intOf];omega
   ·have hE4:E=(rawE (xo,xt,xr,xl) bound,k):=by rw [HEK2.out,if_pos hr]
    generalize rawE (xo,xt,xr,xl) bound=er at *
    generalize rawO (xo,xt,xr,xl) bound=ro at *
    generalize sizeTo (rawsL bound l) k=sz at *
    clear HEK2 HSS HTK HM5 hm5 hro
    have hR:RR=[]:=by rw [HRR.out,rawsR,← HEE.out,hE4,if_neg (by first | exact hr | simp)]
    subst hR hE4
    have hS6:=hS5.below ((Below.refl _ w5).alloc (Nat.le_refl _) (.cells #[.int .u16 ro,.slice a5 m5 c5] 217))
    obtain⟨s0,s1,f0,f1⟩:=spot_store hS6
    have hB3:=two_put2 hS6.sbox (.int .i64 er) (.int .i64 (k:Int))
    have hBel:=hS6.bel.trans ((two_below (w5.alloc (.cells #[.int .u16 ro,.slice a5 m5 c5] 217)) (w.heap.size+1) (.int .i64 er) (.int .i64 (k:Int))).mono (by omega))
    have HB3:Hid _:=hB3
    have HBel:Hid _:=hBel
    clear hS6 hS5 hS hbB hown5' hB3 hBel HRR HEE HV HOK
    go_wp2
    have hB3:=HB3.out
    have hBel:=HBel.out
    clear HB3 HBel s0 s1 f0 f1
    generalize ((w5.alloc _).setCell _ _).setCell _ _=W at hB3 hBel ⊢
    obtain⟨hd,_⟩:=one_block hB3
    have d0:=hd 0
    have d1:=hd 1
    refine bodyPost_ret (v:=.tuple #[.slice none 0 0,.agg #[.int .i64 er,.int .i64 (k:Int)]]) ?_ rfl ⟨hBel,none,0,0,rfl,rfl,Nat.le_refl _,rawsV_nil⟩
    simp [results,Tryz.results129,go_sem,d0,d1]
  ·obtain rfl:k=n:=by omega
   have hR:RR=rawsL bound (l.take k):=by
    rw [HRR.out,rawsR,← HEE.out,HEK.out,shape_end bound l k _ (by rw [HL.out];exact Nat.le_refl _),if_pos rfl,List.take_of_length_le (by rw [HL.out];exact Nat.le_refl _)]
   have hE0:E=(0,0):=by rw [HEK.out,shape_end bound l k _ (by rw [HL.out];exact Nat.le_refl _)]
   subst hR hE0
   obtain⟨s0,s1,f0,f1⟩:=spot_store hS
   obtain⟨cs,hown,hrow⟩:=hS.row
   rw [hlk] at hown
   have hcap:k≤cap':=by
    rcases hown.2 with ⟨h1,h2⟩ | ⟨g,c',cur,h1,_,_,h4,_⟩
    ·omega
    ·cases h1;exact h4
   have hB3:=two_put2 hS.sbox (.int .i64 0) (.int .i64 0)
   have hBel:=hS.bel.trans ((two_below wr (w.heap.size+1) (.int .i64 0) (.int .i64 0)).mono (by omega))
   have hV3:RawsV ((wr.setCell ⟨w.heap.size+1,0,none⟩ (.int .i64 0)).setCell ⟨w.heap.size+1,1,none⟩ (.int .i64 0)) a' (rawsL bound (l.take k)):=by
    refine ((hrow.grown ((grown_setCell wr (w.heap.size+1) 0 _).trans (grown_setCell _ (w.heap.size+1) 1 _)) (fun g e=>.inl (by cases e;omega))).own (own_apartly hown ((grown_setCell wr (w.heap.size+1) 0 _).trans (grown_setCell _ (w.heap.size+1) 1 _)) (fun g e=>.inl (by cases e;omega))) hlk).view
   have HV3:Hid _:=hV3
   clear hown hrow hV3 HOK HV HRR HEE HEK hA
   go_wp2
   generalize (wr.setCell ⟨w.heap.size+1,0,none⟩ (.int .i64 0)).setCell ⟨w.heap.size+1,1,none⟩ (.int .i64 0)=W at hB3 hBel HV3 ⊢
   obtain⟨hd,_⟩:=one_block hB3
   have d0:=hd 0
   have d1:=hd 1
   refine bodyPost_ret (v:=.tuple #[.slice a' k cap',.agg #[.int .i64 0,.int .i64 0]]) ?_ rfl ⟨hBel,a',cap',k,rfl,by first | exact hlk | rfl,hcap,HV3.out⟩
   simp [results,Tryz.results129,go_sem,d0,d1]
theorem raws_any (gen bound:Int) (a:Option Addr) (n cap:Nat) (l:List InstT) (w:World) (hg0:0≤gen) (hg1:gen<4294967296) (hb0:0≤bound) (hb1:bound<4294967296) (hv:InstsV w a l) (hok:InstsOk l) (hl:l.length=n) (hn:40 * n≤140737488351232) :
  Calls Tryz.prog 129 #[modV gen bound a n cap] w fun e w'=>Below w.heap.size w w'∧∃ ax cx m,e=.returned (.tuple #[.slice ax m cx,.agg #[.int .i64 (shapeE bound l).1,.int .i64 (shapeE bound l).2]])∧(rawsR bound l).length=m∧m≤cx∧RawsV w' ax (rawsR bound l):=by
 by_cases h1:bound=0∨65536<bound
 ·exact raws_bad gen bound a n cap l w hg0 hg1 hb0 hb1 hv hok hl hn h1
 ·exact raws_ok gen bound a n cap l w hg0 hg1 hb0 hb1 hv hok hl hn h1


set_option maxHeartbeats 2000000 in
theorem codeShape_any (gen bound:Int) (a:Option Addr) (n cap:Nat) (l:List InstT) (w:World) (hg0:0≤gen) (hg1:gen<4294967296) (hb0:0≤bound) (hb1:bound<4294967296) (hv:InstsV w a l) (hok:InstsOk l) (hl:l.length=n) (hn:40 * n≤140737488351232) :
  Calls Tryz.prog 83 #[modV gen bound a n cap] w fun e w'=>e=.returned (.agg #[.int .i64 (shapeE bound l).1,.int .i64 (shapeE bound l).2])∧Below w.heap.size w w':=by
 have hR:=fun wx (hb:Below w.heap.size w wx)=>raws_any gen bound a n cap l wx hg0 hg1 hb0 hb1 (hv.below hb) hok hl hn
 generalize (shapeE bound l).1=e1 at *
 generalize (shapeE bound l).2=e2 at *
 have HL:Hid (l.length=n):=hl
 unfold modV at *
 clear hv hok hl
 have hB0:Below w.heap.size w ((w.alloc (.cells #[.int .u32 gen,.int .u32 bound,.slice a n cap] 25)).alloc (.cells #[.int .i64 0,.int .i64 0] 33)):=((Below.refl _ w).alloc (Nat.le_refl _) _).alloc (by simp) _
 have hC:=hR _ hB0
 have kX:((w.alloc (.cells #[.int .u32 gen,.int .u32 bound,.slice a n cap] 25)).alloc (.cells #[.int .i64 0,.int .i64 0] 33)).heap[w.heap.size+1]?=some (.cells #[.int .i64 0,.int .i64 0] 33 (0,0)):=by simpa using alloc_new (w.alloc (.cells #[.int .u32 gen,.int .u32 bound,.slice a n cap] 25)) #[.int .i64 0,.int .i64 0] 33
 have HB0:Hid _:=hB0
 have HX:Hid _:=kX
 clear hR hB0 kX
 go_enter Tryz.func83,Tryz.ntmps83
 go_wp2_with fail
 have hB0:=HB0.out
 have kX:=HX.out
 clear HB0 HX
 generalize (w.alloc (.cells #[.int .u32 gen,.int .u32 bound,.slice a n cap] 25)).alloc (.cells #[.int .i64 0,.int .i64 0] 33)=W0 at *
 refine hC.mono ?_
 rintro e w1 ⟨hb1',ax,cx,m,rfl,hm,_,hV1⟩
 have l0:=(Array.getElem?_eq_some_iff.1 kX).1
 have s1:=hb1'.size
 have hb2:Below W0.heap.size W0 (w1.alloc (.cells #[.int .i64 e1,.int .i64 e2] 33)):=hb1'.alloc s1 _
 have kX2:=(hb2.block _ l0).trans kX
 obtain⟨d0,d1,_⟩:=cell_of_two (alloc_new w1 #[.int .i64 e1,.int .i64 e2] 33)
 obtain⟨hcX,hfX⟩:=one_block kX2
 have c0:=hcX 0
 have c1:=hcX 1
 have f0:=hfX 0
 have f1:=hfX 1
 have hBel:=hB0.trans (hb2.mono hB0.size)
 have hB3:=two_put2 kX2 (.int .i64 e1) (.int .i64 e2)
 have hBel2:=hBel.trans ((two_below (w1.alloc (.cells #[.int .i64 e1,.int .i64 e2] 33)) (w.heap.size+1) (.int .i64 e1) (.int .i64 e2)).mono (by omega))
 have HB3:Hid _:=hB3
 have HBel2:Hid _:=hBel2
 have hne:w1.heap.size≠w.heap.size+1:=by omega
 clear hC hb1' hb2 kX kX2 hcX hfX hB0 hBel hB3 hBel2 hV1 hm
 go_wp2
 have hB3:=HB3.out
 have hBel:=HBel2.out
 clear HB3 HBel2 c0 c1 f0 f1 d0 d1
 generalize ((w1.alloc _).setCell _ _).setCell _ _=W at hB3 hBel ⊢
 obtain⟨hd,_⟩:=one_block hB3
 have d0:=hd 0
 have d1:=hd 1
 refine bodyPost_ret (v:=.agg #[.int .i64 e1,.int .i64 e2]) ?_ rfl ⟨rfl,hBel⟩
 simp [results,Tryz.results83,go_sem,d0,d1]
def setAll (cs:Array Value):Nat→List Value→Array Value
 | _,[]=>cs
 | i,v :: vs=>setAll (cs.setIfInBounds i v) (i+1) vs
theorem setCells_grown (b:Nat):∀ (vs:List Value) (i:Nat) (w:World),w.grownBy (w.setCells b i vs) (some b)
 | [],_,_=>⟨rfl,rfl,rfl,Nat.le_refl _,fun _ _ _=>rfl⟩
 | v :: vs,i,w=>by
  have h:=setCells_grown b vs (i+1) (w.setCell ⟨b,i,none⟩ v)
  refine⟨h.os,h.tape,h.output,?_,fun k hk hn=>?_⟩
  ·have:=h.size;rw [World.size_setCell] at this;exact this
  ·refine (h.block k (by rw [World.size_setCell];exact hk) hn).trans ?_
   exact Below.heap_setCell _ _ _ _ (by intro e;exact hn (by rw [e]))
theorem setCells_block {b t:Nat} {fr:Nat×Nat}:∀ (vs:List Value) (i:Nat) (w:World) (cs:Array Value),w.heap[b]?=some (.cells cs t fr)→(w.setCells b i vs).heap[b]?=some (.cells (setAll cs i vs) t fr)
 | [],_,_,_,h=>h
 | v :: vs,i,w,cs,h=>setCells_block vs (i+1) _ _ (by simp [World.setCell,Array.getElem?_modify,h])
theorem setAll_at:∀ (vs:List Value) (i j:Nat) (cs:Array Value),i+vs.length≤cs.size→(setAll cs i vs)[j]?=if i≤j∧j<i+vs.length then vs[j - i]? else cs[j]?
 | [],i,j,cs,_=>by rw [if_neg (by simp only [List.length_nil];omega)];rfl
 | v :: vs,i,j,cs,h=>by
  simp only [List.length_cons] at h ⊢
  rw [setAll,setAll_at vs (i+1) j _ (by simp;omega)]
  by_cases e:j=i
  ·subst e
   rw [if_neg (by omega),if_pos (by omega),Array.getElem?_setIfInBounds_self_of_lt (by omega)];simp
  ·by_cases h1:i+1≤j∧j<i+1+vs.length
   ·rw [if_pos h1,if_pos (by omega),show j - i=(j - (i+1))+1 by omega];simp
   ·rw [if_neg h1,if_neg (by omega),Array.getElem?_setIfInBounds_ne (fun e2=>e e2.symm)]
theorem setCells_all {b t:Nat} {fr:Nat×Nat} {w:World} {cs:Array Value} (vs:List Value) (h:w.heap[b]?=some (.cells cs t fr)) (hs:cs.size=vs.length):(w.setCells b 0 vs).heap[b]?=some (.cells vs.toArray t fr):=by
 rw [setCells_block vs 0 w cs h]
 have e:setAll cs 0 vs=vs.toArray:=by
  apply Array.ext'
  apply List.ext_getElem?
  intro j
  have:=setAll_at vs 0 j cs (by omega)
  rw [Array.getElem?_toList,this]
  by_cases hj:j<vs.length
  ·rw [if_pos (by omega)];simp
  ·rw [if_neg (by omega),Array.getElem?_eq_none (by omega)];simp;omega
 rw [e]
def StopP (p:Prop):Prop:=p
theorem stopS {P:Program} {ops:Array Oper} {Q:Exit→Act→World→Prop} {a:Act} {w:World} (T:TypeId) {x y:Operand} {d:Option Tmp} {ty:TypeId} {ps:String} {af:Array Edge} {g:Option (Nat×Bool)} {rest:List Oper} (h:StopP (wpList P ops Q ({ dst:=d,op:=.store T x y,type:=ty,pos:=ps,after:=af,guard:=g } :: rest) a w)):wpList P ops Q ({ dst:=d,op:=.store T x y,type:=ty,pos:=ps,after:=af,guard:=g } :: rest) a w:=h
theorem stopD {P:Program} {ops:Array Oper} {Q:Exit→Act→World→Prop} {a:Act} {w:World} (T:TypeId) {x:Operand} {d:Option Tmp} {ty:TypeId} {ps:String} {af:Array Edge} {g:Option (Nat×Bool)} {rest:List Oper} (h:StopP (wpList P ops Q ({ dst:=d,op:=.load T x,type:=ty,pos:=ps,after:=af,guard:=g } :: rest) a w)):wpList P ops Q ({ dst:=d,op:=.load T x,type:=ty,pos:=ps,after:=af,guard:=g } :: rest) a w:=h
end Go.Proofs.YtlcaedibmlidlaaGreat
