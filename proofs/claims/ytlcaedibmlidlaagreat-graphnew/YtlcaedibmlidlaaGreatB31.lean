/-
  Texts in one: Ref14New.
-/
import Derived.Test.YtlcaedibmlidlaaGreatB30
namespace Go.Proofs.YtlcaedibmlidlaaGreat
open Go.RowKit
set_option linter.unusedVariables false
set_option linter.unusedSimpArgs false
set_option maxRecDepth 10000
def RnQ (w w' : World) (E1 E2 : Int) (N : List (List Int)) (M : List (Int × Int × Int)) (e : Ending) : Prop :=
  Below w.heap.size w w' ∧ ∃ gv mv, e = .returned (.tuple #[gv, mv, .agg #[.int .i64 E1, .int .i64 E2]]) ∧
  ((E1 ≠ 0 ∧ gv = .pointer none ∧ mv = .slice none 0 0) ∨
   (E1 = 0 ∧ E2 = 0 ∧ ∃ p lo, gv = .pointer (some ⟨p, 0, none⟩) ∧ RfG w' p lo N ∧ ∃ x c, mv = .slice x M.length c ∧ MgV w' x M))
theorem refNewRet {Q:Ending→World→Prop} {a':Act} {Z:World} {B:Nat} {hv mv:Value} {e k:Int} (h4:slot a'.tmps 4=hv) (h5:slot a'.tmps 5=mv) (h6:slot a'.tmps 6=.pointer (some ⟨B,0,none⟩)) (hd:a'.defers=[]) (hZ:Z.heap[B]?=some (.cells #[.int .i64 e,.int .i64 k] 33 (0,0)))
  (hq:Q (.returned (.tuple #[hv,mv,.agg #[.int .i64 e,.int .i64 k]])) Z):bodyPost Tryz.prog Tryz.f24 Q .ret a' Z:=by
 have r6:=run_loadVar_mid (P:=Tryz.prog) Z B 0 33 [.int .i64 e,.int .i64 k] _ (range_of_block hZ) Tryz.underlying33 rfl (by kernel_rfl)
 refine bodyPost_ret (v:=.tuple #[hv,mv,.agg #[.int .i64 e,.int .i64 k]]) ?_ hd hq
 have g4:a'.tmps.getD 4 undef=hv:=h4
 have g5:a'.tmps.getD 5 undef=mv:=h5
 have g6:a'.tmps.getD 6 undef=.pointer (some ⟨B,0,none⟩):=h6
 simp only [results,Tryz.results24,List.mapM_toArray,List.mapM_cons,List.mapM_nil,g4,g5,g6,asAddr,Sem.run_bind,Sem.run_pure,Result.andThen_ok,bind_assoc,pure_bind,Sem.run_map,map_pure,r6]
 rfl
theorem rnErr {w w':World} {E1 E2:Int} {N:List (List Int)} {M:List (Int×Int×Int)} {EE:Int×Int} (h:EE=(E1,E2)) (h0:E1≠0) (hb:Below w.heap.size w w'):RnQ w w' EE.1 EE.2 N M (.returned (.tuple #[.pointer none,.slice none 0 0,.agg #[.int .i64 E1,.int .i64 E2]])):=by
 subst h
 exact⟨hb,_,_,rfl,.inl ⟨h0,rfl,rfl⟩⟩
theorem wpList_leadM {w:World} {ops:Array Oper} {rest:List Oper} {o:Oper} {a:Act} {Q:Exit→Act→World→Prop} (hgd:o.guard=none) (s x:Operand)
  (ho:o.op=.call { callee:=.builtin .append,args:=#[s,x],argTypes:=#[43,43] }) {lo:Nat} {hv mv:Value} {N:List (List Int)} {ms:List (Int×Int×Int)} (k1 k2 k3:Int) (h:LeadR w lo hv N mv ms) (hlo:lo≤w.heap.size)
  (hs:a.eval s=mv) (b:Nat) (hx:a.eval x=.slice (some ⟨b,0,none⟩) 1 1) (hB:w.heap[b]?=some (.cells #[.int .u8 k1,.int .i64 k2,.int .i64 k3] 96 (0,0))) (hn:ms.length≤1048576)
  (hK:∀ mv' w',LeadR w' lo hv N mv' (ms++[(k1,k2,k3)])→w.grownBy w' mv.ownBlock→wpList Tryz.prog ops Q rest (a.put o.dst mv') w'):wpList Tryz.prog ops Q (o :: rest) a w:=by
 obtain⟨i0,hi,hz0,hz1,hz2⟩:=info_parts LdM.info
 refine wpList_append_lies w hgd s x 43 ho lo 96 i0 (.agg #[.int .u8 0,.int .i64 0,.int .i64 0]) 3 24 Tryz.underlying43 hi hz0 hz1 hz2 rfl (by decide) mv ms.length (ms.flatMap mgC) hs h.merges ⟨b,0,none⟩ 1 1 [.int .u8 k1,.int .i64 k2,.int .i64 k3] hx rfl (World.news_of_block (cs:=#[.int .u8 k1,.int .i64 k2,.int .i64 k3]) (t:=96) (fr:=(0,0)) hB) (by intro u hu;simp at hu;rcases hu with rfl | rfl | rfl <;> rfl) (by decide) (by unfold maxLen;omega) (by omega) hlo w.heap.size rfl ?_
 intro g cap w' q1 q2 q3 _
 refine hK _ w' (h.pushM (k1,k2,k3) q2 ?_ (by simpa [mgC] using q1)) q2
 rcases q3 with q3 | rfl
 ·exact .inl q3.symm
 ·exact .inr (fun k e=>by simp [Value.ownBlock] at e;omega)
theorem wpList_leadN {w:World} {ops:Array Oper} {rest:List Oper} {o:Oper} {a:Act} {Q:Exit→Act→World→Prop} (hgd:o.guard=none) (s x:Operand)
  (ho:o.op=.call { callee:=.builtin .append,args:=#[s,x],argTypes:=#[50,50] }) {W:World} {lo:Nat} {hv mv v:Value} {N:List (List Int)} {ms:List (Int×Int×Int)} {L:List Int} (h:LeadR W lo hv N mv ms) (hb:Below W.heap.size W w) (hlo:lo≤W.heap.size)
  (hvr:w.ownsRow W.heap.size 3 1 v L.length (L.map (Value.int .i64))) (hs:a.eval s=hv) (b:Nat) (hx:a.eval x=.slice (some ⟨b,0,none⟩) 1 1) (hB:w.heap[b]?=some (.cells #[v] 26 (0,0))) (hn:N.length≤1048576)
  (hK:∀ hv' w',LeadR w' lo hv' (N++[L]) mv ms→w.grownBy w' hv.ownBlock→wpList Tryz.prog ops Q rest (a.put o.dst hv') w'):wpList Tryz.prog ops Q (o :: rest) a w:=by
 obtain⟨i0,hi,hz0,hz1,hz2⟩:=info_parts LdN.info
 obtain⟨a5,c5,rfl⟩:=own_shapeG hvr
 obtain⟨cs,ho1,hp⟩:=h.pushN hb hlo hvr
 have hsz:=hb.size
 refine wpList_append_lies w hgd s x 50 ho lo 26 i0 (.slice none 0 0) 1 24 Tryz.underlying50 hi hz0 hz1 hz2 rfl (by decide) hv N.length cs hs ho1 ⟨b,0,none⟩ 1 1 [.slice a5 L.length c5] hx rfl (World.news_of_block (cs:=#[.slice a5 L.length c5]) (t:=26) (fr:=(0,0)) hB) (by intro u hu;simp at hu;subst hu;rfl) (by decide) (by unfold maxLen;omega) (by omega) (by omega) w.heap.size rfl ?_
 intro g cap w' q1 q2 q3 _
 refine hK _ w' (hp w' _ q2 ?_ (by simpa using q1)) q2
 rcases q3 with q3 | rfl
 ·exact .inl q3.symm
 ·exact .inr (fun k e=>by simp [Value.ownBlock] at e;omega)
theorem nth_mem14 (l:List Int) (k:Nat) (h:k<l.length):nth l k∈l:=by simp [nth,List.getD,h]
theorem wrapQ14 {j k:Nat} (h:j<k) (hk:k≤5864062014805):wrap64 ((j:Int)+1)=(j:Int)+1:=by unfold wrap64;omega
theorem rnOk {w w':World} {N:List (List Int)} {M:List (Int×Int×Int)} {EE:Int×Int} {p lo c:Nat} {mv:Value} {x:Option Addr} (h:EE=(0,0)) (hb:Below w.heap.size w w') (hG:RfG w' p lo N) (he:mv=.slice x M.length c) (hm:MgV w' x M):RnQ w w' EE.1 EE.2 N M (.returned (.tuple #[.pointer (some ⟨p,0,none⟩),mv,.agg #[.int .i64 0,.int .i64 0]])):=by
 subst h
 exact⟨hb,_,_,rfl,.inr ⟨rfl,rfl,p,lo,rfl,hG,x,c,he,hm⟩⟩
theorem RfG.set {w:World} {B lo:Nat} {N:List (List Int)} (h:RfG w B lo N) {b i:Nat} (hb:b<lo) (hne:B≠b) (u:Value):RfG (w.setCell ⟨b,i,none⟩ u) B lo N:=by
 obtain⟨nv,h1,h2⟩:=h.mem.mem
 exact⟨⟨nv,mgOth h1 hne u,h2.kept (grown_setCell w b i u) (fun g e=>by cases e;exact hb)⟩,h.edges,h.few,h.some_,h.once⟩
theorem afterPush {w3 X Y:World} {ob:Option Nat} {p:Nat} {o:Obj} (hb:Below w3.heap.size w3 X) (hg:X.grownBy Y ob) (hlo:∀ g,ob=some g→w3.heap.size≤g∧g<p) (hp:X.heap[p]?=some o):Below w3.heap.size w3 Y∧Y.heap[p]?=some o :=
 ⟨hb.grown hg hb.size (fun k e=>(hlo k e).1),(hg.block p (Array.getElem?_eq_some_iff.1 hp).1 (fun e=>Nat.lt_irrefl _ (hlo p e.symm).2)).trans hp⟩
set_option maxHeartbeats 32000000 in
theorem refNew14_any (gen bnd:Int) (a:Option Addr) (n c:Nat) (l:List InstT) (fv:Value) (f:FuncT) (w:World) (hv:InstsV w a l) (hok:InstsOk l) (hl:l.length=n) (hn:40 * n≤140737488351232) (g0:0≤gen) (g1:gen<4294967296) (b0:0≤bnd) (b1:bnd<4294967296) (hf:FnR w fv f) :
  Calls Tryz.prog 24 #[modV gen bnd a n c,fv] w fun e w'=>RnQ w w' (newE bnd l f).1 (newE bnd l f).2 ((newN l f).map onceF) (newM l f) e:=by
 have HFF:=hide fun wx (h:Below w.heap.size w wx)=>hf.below h
 have HMG:=hide fun wx (z:Int) (q m:Nat) (ho:OnceB f.2.2.2.1) (h:Below w.heap.size w wx)=>refMerge14_any gen bnd z a n c q m l fv f wx (hv.below h) hl hn (hf.below h) ho
 have HBK:=hide fun wx y (ho:OnceB f.2.2.2.1) (h:Below w.heap.size w wx)=>refBlock14_any fv f y wx (hf.below h) ho
 have HKN:=hide fun wx (h0:(layE bnd l).1=0) (h:Below w.heap.size w wx)=>refKnown14_any gen bnd a n c l fv f wx (hv.below h) hok hl hn b0 b1 (hf.below h) h0
 obtain⟨xp,cp,xq,cq,rfl,hf1,hf2⟩:=hf.form
 obtain⟨sz0,bl0,km0,kf0,ks0⟩:=leadBoxes w #[.int .u32 gen,.int .u32 bnd,.slice a n c] #[.int .u32 f.1,.int .i64 f.2.1,.slice xp f.2.2.1.length cp,.slice xq f.2.2.2.1.length cq,.int .i64 f.2.2.2.2]
 have HV:=hide hv
 have HOK:=hide hok
 have HL:=hide hl
 have HN:=hide hn
 have hid:=refCheck9_any gen bnd a n c l _ (hv.below bl0) hok hl hn b0 b1
 have HF2:=hide hf2
 have m0:=(one_block km0).1 0
 have m1:=(one_block km0).1 1
 have m2:=(one_block km0).1 2
 have HBL:=hide bl0
 have HKM:=hide km0
 have HKF:=hide kf0
 have HKS:=hide ks0
 have HSZ:=hide sz0
 obtain⟨E1,hE1v⟩:∃ E1,E1=(idsE bnd l).1:=⟨_,rfl⟩
 obtain⟨e2,he2v⟩:∃ e2:Int,e2=((idsE bnd l).2:Int):=⟨_,rfl⟩
 have HEE:Hid (E1≠0→newE bnd l f=(E1,e2)):=fun h=>by rw [hE1v] at h;unfold newE;rw [if_pos h,hE1v,he2v]
 have HIS:Hid (E1=0→(layE bnd l).1=0∧(idsE bnd l).1=0∧e2=0):=fun h=>by rw [hE1v] at h;exact⟨(ids_sound h).1,h,by rw [he2v,(ids_sound h).2.1];rfl⟩
 rw [← hE1v,← he2v] at hid
 obtain⟨NE,hNE⟩:∃ N,N=newE bnd l f:=⟨_,rfl⟩
 obtain⟨NN,hNN⟩:∃ N,N=newN l f:=⟨_,rfl⟩
 obtain⟨MM,hMM⟩:∃ N,N=newM l f:=⟨_,rfl⟩
 have HNE:=hide hNE
 have HNN:=hide hNN
 have HMM:=hide hMM
 rw [← hNE] at HEE
 rw [← hNE,← hNN,← hMM]
 clear hE1v he2v hNE hNN hMM
 unfold modV at *
 clear hv hok hl hn hf hf1 hf2 km0 kf0 ks0 sz0 bl0
 obtain⟨fi,fa,fp,fb,fe⟩:=f
 simp only at *
 go_enter Tryz.func24,Tryz.ntmps24
 go_wp2_with fail
 generalize World.alloc (World.alloc (World.alloc w _) _) _=W0 at *
 refine hid.mono ?_
 rintro e w1 ⟨rfl,hb1⟩
 have hbw1:=HBL.out.trans (hb1.mono HBL.out.size)
 have hkm1:=(hb1.block _ (Array.getElem?_eq_some_iff.1 HKM.out).1).trans HKM.out
 have hkf1:=(hb1.block _ (Array.getElem?_eq_some_iff.1 HKF.out).1).trans HKF.out
 have hks1:=(hb1.block _ (Array.getElem?_eq_some_iff.1 HKS.out).1).trans HKS.out
 have HB1:=hide (hbw1.trans (((Below.refl _ w1).alloc (Nat.le_refl _) (.cells #[.int .i64 E1,.int .i64 e2] 33)).mono hbw1.size))
 have HKM1:=hide (allocOld hkm1 (.cells #[.int .i64 E1,.int .i64 e2] 33))
 have HKF1:=hide (allocOld hkf1 (.cells #[.int .i64 E1,.int .i64 e2] 33))
 have HKS1:=hide (allocOld hks1 (.cells #[.int .i64 E1,.int .i64 e2] 33))
 have hk7:=allocNew w1 (.cells #[.int .i64 E1,.int .i64 e2] 33) rfl
 have HB2:Hid (w.heap.size≤w.heap.size+1+1∧w.heap.size+1+1<w1.heap.size):=by have:=HSZ.out;have:=hb1.size;exact⟨by omega,by omega⟩
 clear hid hb1 hbw1 hkm1 hkf1 hks1 HKM HKF HKS HBL m0 m1 m2
 have s0:=(one_block hk7).1 0
 have s1:=(one_block hk7).1 1
 change Hid ((World.alloc w1 _).heap[w.heap.size+1+1]?=_) at HKS1
 have HB12:Hid (w.heap.size+1<w.heap.size+1+1):=Nat.lt_succ_self _
 generalize w.heap.size+1+1=B2 at *
 generalize w.heap.size+1=B1 at *
 by_cases hE1:E1=0
 ·obtain⟨hlay,hid0,hz2⟩:=HIS.out hE1
  subst hE1;subst hz2
  have m0:=(one_block HKM1.out).1 0
  have m1:=(one_block HKM1.out).1 1
  have m2:=(one_block HKM1.out).1 2
  obtain⟨n0,n1,n2,n3,n4⟩:=fiveCells HKF1.out
  have hkn:=HKN.out _ hlay HB1.out
  have HID:=hide hid0
  have HLY:=hide hlay
  clear hid0 HIS HEE HKN hk7
  go_wp2_with fail
  refine hkn.mono ?_
  rintro e w3 ⟨⟨r,rfl,hr⟩,hb3⟩
  clear hkn
  have HB3:=hide (HB1.out.trans (hb3.mono HB1.out.size))
  have HKM3:=hide ((hb3.block _ (Array.getElem?_eq_some_iff.1 HKM1.out).1).trans HKM1.out)
  have HKF3:=hide ((hb3.block _ (Array.getElem?_eq_some_iff.1 HKF1.out).1).trans HKF1.out)
  have HKS3:=hide ((hb3.block _ (Array.getElem?_eq_some_iff.1 HKS1.out).1).trans HKS1.out)
  clear hb3 m0 m1 m2 n0 n1 n2 n3 n4 s0 s1 HKM1 HKF1 HKS1 HB1
  cases r with
  | false =>
   have HNE2:Hid (NE=(2,0)):=by
    show _=_
    rw [HNE.out];unfold newE
    rw [if_neg (by rw [HID.out];simp),if_pos (fun h=>by have:=hr.2 h;cases this)]
   obtain⟨z0,z1,_,_⟩:=twoF HKS3.out
   have x0:=(one_block HKS3.out).1 0
   have x1:=(one_block HKS3.out).1 1
   clear hr HKM3 HKF3
   go_wp2_with fail
   exact refNewRet (B:=B2) (hv:=.pointer none) (mv:=.slice none 0 0) rfl rfl rfl rfl (spotLd HKS3.out _ _) (rnErr HNE2.out (by decide) ((HB3.out.setCell HB2.out.1 _).setCell HB2.out.1 _))
  | true =>
   have hmem:=hr.1 rfl
   have ho:OnceB fb:=lab_once HID.out hmem
   have HMEM:=hide hmem
   have HO:=hide ho
   have hblk:=new_blk HLY.out hmem
   have HBLK:=hide hblk
   obtain⟨n0,n1,n2,n3,n4⟩:=fiveCells HKF3.out
   clear hmem ho hr hblk
   by_cases h4:4096<fb.length
   ·have h4i:(4096:Int)<(fb.length:Int):=by omega
    have HNE2:Hid (NE=(4,fa)):=by
     show _=_
     rw [HNE.out];unfold newE
     rw [if_neg (by rw [HID.out];simp),if_neg (by simpa using HMEM.out),if_pos h4]
    obtain⟨z0,z1,_,_⟩:=twoF HKS3.out
    have x0:=(one_block HKS3.out).1 0
    have x1:=(one_block HKS3.out).1 1
    clear h4 HKM3
    go_wp2_with fail
    have hC0:w3.drew.heap[B1]?=some (.cells #[.int .u32 fi,.int .i64 fa,.slice xp fp.length cp,.slice xq fb.length cq,.int .i64 fe] 29 (0,0)):=HKF3.out
    have hmix:Tryz.prog.follows .mixedOrders=true:=by kernel_rfl
    have hkb:B1≠B2:=by have:=HB2.out;have:=HB12.out;omega
    have LC:Hid (∀ w':World,w'.heap[B1]?=some (.cells #[.int .u32 fi,.int .i64 fa,.slice xp fp.length cp,.slice xq fb.length cq,.int .i64 fe] 29 (0,0))→w'.cell? ⟨B1,1,none⟩=some (.int .i64 fa)):=fun w' h=>(fiveCells h).2.1
    refine (wpIn_wide (n:=0)).1 ?_
    refine wpIn_normal (wpIn_region_any hmix (wpAnyE_sound (C:=fun w'=>w'.heap[B1]?=some (.cells #[.int .u32 fi,.int .i64 fa,.slice xp fp.length cp,.slice xq fb.length cq,.int .i64 fe] 29 (0,0))) (E:=fun _=>false) _ _ _ _ ?_))
    change wpAnyE _ _ _ _ _ _ _ _ _ _ _ (World.drew _)
    refine wpAnyE_takeD (i:=0) (some 35) (v:=(.pointer (some ⟨B1,1,none⟩))) (fun _=>trivial) (by kernel_rfl) rfl rfl (by kernel_rfl) (by kernel_rfl) (by kernel_rfl) (by kernel_rfl) (fun _ _ _ h=>by cases h.1) hC0 (Or.inl ⟨by kernel_rfl,fun w' hC=>by have e1:=LC.out w' hC;clear hC;go_simp⟩) ?_
    simp only [Act.put,ap1,ap2,ap3]
    refine wpAnyE_takeD (i:=1) (some 36) (v:=(.int .i64 fa)) (fun _=>trivial) (by kernel_rfl) rfl rfl (by kernel_rfl) (by kernel_rfl) (by kernel_rfl) (by kernel_rfl) (fun _ _ _ h=>by cases h.1) hC0 (Or.inl ⟨by kernel_rfl,fun w' hC=>by have e1:=LC.out w' hC;clear hC;go_simp⟩) ?_
    simp only [Act.put,ap1,ap2,ap3]
    refine wpAnyE_takeD (i:=2) (some 37) (v:=(.agg #[.int .i64 4,.int .i64 fa])) (fun _=>trivial) (by kernel_rfl) rfl rfl (by kernel_rfl) (by kernel_rfl) (by kernel_rfl) (by kernel_rfl) (fun _ _ _ h=>by cases h.1) hC0 (Or.inl ⟨by kernel_rfl,fun w' hC=>by have e1:=LC.out w' hC;clear hC;go_simp⟩) ?_
    simp only [Act.put,ap1,ap2,ap3]
    refine wpAnyE_takeD (i:=3) (some 4) (v:=(.pointer none)) (fun _=>trivial) (by kernel_rfl) rfl rfl (by kernel_rfl) (by kernel_rfl) (by kernel_rfl) (by kernel_rfl) (fun _ _ _ h=>by cases h.1) hC0 (Or.inl ⟨by kernel_rfl,fun w' hC=>by have e1:=LC.out w' hC;clear hC;go_simp⟩) ?_
    simp only [Act.put,ap1,ap2,ap3]
    refine wpAnyE_takeD (i:=4) (some 5) (v:=(.slice none 0 0)) (fun _=>trivial) (by kernel_rfl) rfl rfl (by kernel_rfl) (by kernel_rfl) (by kernel_rfl) (by kernel_rfl) (fun _ _ _ h=>by cases h.1) hC0 (Or.inl ⟨by kernel_rfl,fun w' hC=>by have e1:=LC.out w' hC;clear hC;go_simp⟩) ?_
    simp only [Act.put,ap1,ap2,ap3]
    clear LC
    refine wpAnyE_ready (rs:=[5]) (by kernel_rfl) (by simp) ?_
    refine AllE.cons rfl (fun Kk hK=>?_) AllE.nil
    go_simp
    refine hK _ _ (.inr (mgOth (mgOth HKF3.out hkb _) hkb _)) ?_
    clear hK Kk
    refine wpAnyE_done (by kernel_rfl) ⟨rfl,?_⟩ _
    first | rw [then_normalLd] | skip
    go_wp2_with fail
    refine refNewRet (B:=B2) (hv:=.pointer none) (mv:=.slice none 0 0) rfl rfl rfl rfl (spotLd HKS3.out _ _) (rnErr HNE2.out (by decide) ?_)
    first | exact ((HB3.out.setCell HB2.out.1 _).setCell HB2.out.1 _).drew | exact ((HB3.out.drew.setCell HB2.out.1 _).setCell HB2.out.1 _) | exact ((HB3.out.setCell HB2.out.1 _).setCell HB2.out.1 _)
   ·have h4i:¬ (4096:Int)<(fb.length:Int):=by omega
    have hf4:decide ((4096:Int)<(fb.length:Int))=false:=decide_eq_false h4i
    have H4:Hid (fb.length≤4096):=by show _≤_;omega
    clear h4
    obtain⟨F,hF⟩:∃ F,F=numT fb fb.length:=⟨_,rfl⟩
    have hpm:=lead_prem HLY.out HOK.out HMEM.out
    have hNE3:NE=ldE F l fb:=by
     rw [HNE.out];unfold newE
     rw [if_neg (by rw [HID.out];simp),if_neg (by simpa using HMEM.out),if_neg (by simpa using H4.out),hF]
    have hNN3:NN=fb.map (ldN F l):=by rw [HNN.out,hF];rfl
    have hMM3:MM=fb.map (ldM F l):=by rw [HMM.out,hF];rfl
    have HNE3:=hide hNE3
    have HNN3:=hide hNN3
    have HMM3:=hide hMM3
    have HPOS:Hid (0<fb.length):=List.length_pos_iff.2 hpm.1
    have HF:=hide hF
    have hma:=merge_args HLY.out
    have HMA:=hide hma
    have hgr:Below w3.heap.size w3 w3:=Below.refl _ _
    have HB1w:Hid (B1<w3.heap.size):=(Array.getElem?_eq_some_iff.1 HKF3.out).1
    have HB0w:Hid (w.heap.size<w3.heap.size):=(Array.getElem?_eq_some_iff.1 HKM3.out).1
    have HB2w:Hid (B2<w3.heap.size):=(Array.getElem?_eq_some_iff.1 HKS3.out).1
    clear hF hpm hNE3 hNN3 hMM3 hma HNE HNN HMM hgr
    generalize hnb:fb.length=nb at *
    have HNB:=hide hnb
    clear hnb
    go_wp2_with fail
    go_loopw [8,9,10] (fun hv mv i wr=>∃ k:Nat,k≤nb∧i=.int .i64 k∧Below w3.heap.size w3 wr∧LeadR wr w3.heap.size hv ((fb.take k).map (ldN F l)) mv ((fb.take k).map (ldM F l))∧(∀ j,j<k→okM F l (nthB fb j)∧okT F l (nthB fb j))) (fun _ _ i _=>nb - (intOf i).toNat)
    case atStart=>exact⟨0,Nat.zero_le _,rfl,Below.refl _ _,LeadR.nil _ _,fun j h=>absurd h (Nat.not_lt_zero j)⟩
    case round =>
     obtain⟨k,hk,rfl,hbr,hLR,hall⟩:=hrel
     generalize hwo:wr=wo at *
     clear hwo
     have hbw:=HB3.out.trans (hbr.mono HB3.out.size)
     have HBW:=hide hbw
     have HBR:=hide hbr
     have HLR:=hide hLR
     have HALL:=hide hall
     have hkm:=(hbr.block _ HB0w.out).trans HKM3.out
     have hkf:=(hbr.block _ HB1w.out).trans HKF3.out
     have HKM:=hide hkm
     have HKF:=hide hkf
     have HKS:=hide ((hbr.block _ HB2w.out).trans HKS3.out)
     by_cases hlt:k<nb
     ·have hkl:k<fb.length:=by rw [HNB.out];exact hlt
      obtain⟨z,q,m,ebk,hqm,hm2,h248⟩:=HBLK.out k (by first | exact hkl | exact hlt)
      obtain⟨G,o,rfl,hG,p0,p1,p2⟩:=(HF2.out.below hbw) k hkl
      rw [ebk] at p0 p1 p2
      simp only at p0 p1 p2
      have HEB:=hide ebk
      have hki:(k:Int)<(nb:Int):=by omega
      have hk0:(0:Int)≤(k:Int):=by omega
      have HLT:=hide hlt
      have HKL:=hide hkl
      have hmn:m+2≤n:=by have:=HL.out;omega
      have HMN:=hide hmn
      obtain⟨V,hV⟩:∃ V,wo.alloc (.cells #[.int .u32 z,.int .i64 (q:Int),.int .i64 ((m:Int)+2)] 65)=V:=⟨_,rfl⟩
      have hbV:Below wo.heap.size wo V:=by rw [← hV];exact (Below.refl _ wo).alloc (Nat.le_refl _) _
      have hkb:V.heap[wo.heap.size]?=some (.cells #[.int .u32 z,.int .i64 (q:Int),.int .i64 ((m:Int)+2)] 65 (0,0)):=by rw [← hV];exact allocNew wo _ rfl
      have HBV:=hide (hbr.trans (hbV.mono hbr.size))
      have HBX:=hide (HBW.out.trans (hbV.mono HBW.out.size))
      have hvk:=(hbV.block _ (Array.getElem?_eq_some_iff.1 hkm).1).trans hkm
      have hvf:=(hbV.block _ (Array.getElem?_eq_some_iff.1 hkf).1).trans hkf
      have HVM:=hide hvk
      have HVF:=hide hvf
      have HVS:=hide ((hbV.block _ (Array.getElem?_eq_some_iff.1 HKS.out).1).trans HKS.out)
      have HVB:=hide hkb
      have HLV:=hide (hLR.below hbV)
      have HBO:=hide (And.intro hLR.blocks.1 hLR.blocks.2)
      have hmgc:=HMG.out V z q m HO.out HBX.out hqm hmn h248 (HMA.out m (by omega)).1 (HMA.out m (by omega)).2
      have HSW:Hid (w3.heap.size≤wo.heap.size∧wo.heap.size<V.heap.size):=⟨hbr.size,(Array.getElem?_eq_some_iff.1 hkb).1⟩
      obtain⟨m0,m1,m2⟩:=threeC hvk
      obtain⟨n0,n1,n2,n3,n4⟩:=fiveCells hvf
      obtain⟨c0,c1,c2⟩:=threeC hkb
      obtain⟨_,_,_,y3,_⟩:=fiveCells hkf
      subst hV
      have HVV:=HLV
      clear hkl ebk hG hlt hmn h248 hqm hm2 hbV hkb hvk hvf hbr hLR hall hbw hkm hkf hk HKM HKF
      go_wp2_with fail
      generalize World.alloc wo _=V at *
      refine hmgc.mono ?_
      rintro e w5 ⟨⟨v,rfl,hQ⟩,hb5⟩
      clear hmgc m0 m1 m2 n0 n1 n2 n3 n4 c0 c1 c2 y3 p0 p1 p2
      unfold RmQ at hQ
      rw [HNB.out,← HF.out] at hQ
      have HB5:=hide (HBX.out.trans (hb5.mono HBX.out.size))
      have HKB5:=hide ((hb5.block _ (Array.getElem?_eq_some_iff.1 HVB.out).1).trans HVB.out)
      have HKS5:=hide ((hb5.block _ (Array.getElem?_eq_some_iff.1 HVS.out).1).trans HVS.out)
      have HB35:=hide (HBV.out.trans (hb5.mono HBV.out.size))
      have HL5:=hide (HLV.out.below hb5)
      rcases hQ with ⟨hok,rfl⟩ | ⟨hno,k1,k2,k3,rfl⟩
      ·generalize hmg:ldM F l (z,(q:Int),(m:Int)+2)=mg at *
       obtain⟨k1,k2,k3⟩:=mg
       simp only
       have HMG5:Hid (ldM F l (nthB fb k)=(k1,k2,k3)):=by show _=_;rw [HEB.out];exact hmg
       have HOKM:Hid (okM F l (nthB fb k)):=by show okM _ _ _;rw [HEB.out];exact hok
       have hbX:Below w5.heap.size w5 ((w5.alloc (.cells #[.int .u8 k1,.int .i64 k2,.int .i64 k3] 96)).alloc (.cells #[.int .u8 k1,.int .i64 k2,.int .i64 k3] 96)):=((Below.refl _ w5).alloc (Nat.le_refl _) _).alloc (by simp) _
       have HLX:=hide (HL5.out.below hbX)
       have HKBX:=hide ((hbX.block _ (Array.getElem?_eq_some_iff.1 HKB5.out).1).trans HKB5.out)
       have HKSX:=hide ((hbX.block _ (Array.getElem?_eq_some_iff.1 HKS5.out).1).trans HKS5.out)
       have HB3X:=hide (HB35.out.trans (hbX.mono HB35.out.size))
       obtain⟨g0',g1',g2'⟩:=threeC (allocNew w5 (.cells #[.int .u8 k1,.int .i64 k2,.int .i64 k3] 96) rfl)
       clear hmg hok hbX hb5
       go_wp2_with (at_builtin;refine wpList_leadM rfl (.tmp 63) (.tmp 65) rfl k1 k2 k3 HLX.out HB3X.out.size rfl (w5.heap.size+1) rfl (allocNew _ _ (by simp)) (by rw [List.length_map,List.length_take];have:=H4.out;have:=HLT.out;omega) ?_)
       intro mv' w7 hLR7 hg7
       have hw7:=afterPush HB3X.out hg7 (fun g e=>⟨(HBO.out.2 g e).1,(HBO.out.2 g e).2⟩) HKBX.out
       have HB37:=hide hw7.1
       have HKB7:=hide hw7.2
       have HL7:Hid (LeadR w7 w3.heap.size u8 ((fb.take k).map (ldN F l)) mv' ((fb.take (k+1)).map (ldM F l))):=by
        show LeadR _ _ _ _ _ _
        rw [mapTake _ _ _ HKL.out,HMG5.out]
        simpa only [List.map_take] using hLR7
       clear hw7 hLR7 hg7 HLX HKBX HKSX HB3X g0' g1' g2' HL5 HKB5 HKS5 HB35
       have hbw7:=HB3.out.trans (HB37.out.mono HB3.out.size)
       have HBW7:=hide hbw7
       have hI:=HV.out.below hbw7
       obtain⟨gi,oi,ai,ci,ni,rfl,hgi,r1,r2,r3,r4,r5,r6,r7⟩:=hI (m+1) (by rw [HL.out];have:=HMN.out;omega)
       obtain⟨_,_,m2⟩:=threeC ((HB37.out.block _ HB0w.out).trans HKM3.out)
       obtain⟨_,_,c2⟩:=threeC HKB7.out
       have q0:(m:Int)+1<(n:Int):=by have:=HMN.out;omega
       have q1:(0:Int)≤(m:Int)+1:=by omega
       have q2:((m:Int)+1).toNat=m+1:=by omega
       have q3:wrap64 ((m:Int)+2 - 1)=(m:Int)+1:=by have:=HN.out;have:=HMN.out;unfold wrap64;omega
       have hx:=HOK.out (m+1) (by rw [HL.out];have:=HMN.out;omega)
       have htg:=refTargets14_any (nthI l (m+1)) ai ni ci w7 r6 r5 (by rw [← r5];exact hx.2.2.2.2.2.2.2)
       have htl:=tgL_facts (nthI l (m+1)) hx.2.2.2.2.2.2.1
       have hta:tgL (backI l (nthB fb k) 1)=tgL (nthI l (m+1)):=by rw [HEB.out];exact backI_at l z _ m
       have HTL:Hid ((tgL (nthI l (m+1))).length≤5864062014805):=by show _≤_;have h1:=htl.1;have h2:=hx.2.2.2.2.2.2.2;omega
       have HTR:=hide htl.2
       have HTA:=hide hta
       unfold instV at htg
       generalize htt:tgL (nthI l (m+1))=tg at *
       clear hx htl hta hbw7 hI r5 r6 r7 hgi htt
       go_wp2_with fail
       refine htg.mono ?_
       rintro e w8 ⟨v,rfl,ho8,hb8⟩
       obtain⟨ta,tc,rfl,htv,_⟩:=View.ofOwned ho8
       clear htg m2 c2 r1 r2 r3 r4 ho8
       have HB38:=hide (HB37.out.trans (hb8.mono HB37.out.size))
       have HKB8:=hide ((hb8.block _ (Array.getElem?_eq_some_iff.1 HKB7.out).1).trans HKB7.out)
       have HS78:=hide hb8
       have HTV:=hide htv
       generalize htn:tg.length=nt at *
       have HTN:=hide htn
       clear hb8 htv htn
       go_wp2_with fail
       go_loopw [15,16] (fun nv i wq=>∃ q9:Nat,q9≤nt∧i=.int .i64 q9∧Below w8.heap.size w8 wq∧wq.ownsRow w8.heap.size 3 1 nv (((tg.take q9).map (numG F)).length) (((tg.take q9).map (numG F)).map (Value.int .i64))∧∀ j,j<q9→¬ numG F (nth tg j)=0) (fun _ i _=>nt - (intOf i).toNat)
       case atStart=>exact⟨0,Nat.zero_le _,rfl,Below.refl _ _,World.ownsRow_nil _ _ _ _,fun j h=>absurd h (Nat.not_lt_zero j)⟩
       case round =>
        obtain⟨q9,hq9,rfl,hbq,hown,hallq⟩:=hrel
        generalize hwq:wr=wq at *
        clear hwq
        have hb39:=HB38.out.trans (hbq.mono HB38.out.size)
        have HB39:=hide hb39
        have HBQ:=hide hbq
        have HOWN:=hide hown
        have HALQ:=hide hallq
        have HKBQ:=hide ((hbq.block _ (Array.getElem?_eq_some_iff.1 HKB8.out).1).trans HKB8.out)
        have hkf:=(hb39.block _ HB1w.out).trans HKF3.out
        have HKSQ:=hide ((hb39.block _ HB2w.out).trans HKS3.out)
        by_cases hlt9:q9<nt
        ·obtain⟨bt,ot,rfl,hbt,hct⟩:=(HTV.out.below hbq) q9 (by rw [HTN.out];exact hlt9)
         have hqi:(q9:Int)<(nt:Int):=by omega
         have hq0:(0:Int)≤(q9:Int):=by omega
         have HLQ:=hide hlt9
         have hmem:=nth_mem14 tg q9 (by rw [HTN.out];exact hlt9)
         have HYM:=hide hmem
         have HSN:Hid ((tg.take (q9+1)).map (numG F)=(tg.take q9).map (numG F)++[numG F (nth tg q9)]):=by
          show _=_
          rw [take_snoc _ _ (by rw [HTN.out];exact hlt9),List.map_append];rfl
         obtain⟨zs,hzs⟩:∃ zs,(tg.take q9).map (numG F)=zs:=⟨_,rfl⟩
         have HZL:Hid (zs.length≤q9):=by show _≤_;rw [← hzs,List.length_map,List.length_take];omega
         rw [hzs] at hown HOWN HSN
         obtain⟨y,hy⟩:∃ y,nth tg q9=y:=⟨_,rfl⟩
         rw [hy] at hct HYM HSN
         have HYY:=hide hy
         have LC:Hid (∀ w':World,Below wq.heap.size wq w'→w'.cell? ⟨B1,0,none⟩=some (.int .u32 fi)∧w'.cell? ⟨B1,1,none⟩=some (.int .i64 fa)∧w'.cell? ⟨B1,2,none⟩=some (.slice xp fp.length cp)∧w'.cell? ⟨B1,3,none⟩=some (.slice (some ⟨G,o,none⟩) nb cq)∧w'.cell? ⟨B1,4,none⟩=some (.int .i64 fe)∧w'.cell? ⟨bt,ot+q9,none⟩=some (.int .u32 y)):=fun w' h=>by
          obtain⟨u0,u1,u2,u3,u4⟩:=fiveCells ((h.block _ (Array.getElem?_eq_some_iff.1 hkf).1).trans hkf)
          exact⟨u0,u1,u2,u3,u4,(h.cell (p:=⟨bt,ot+q9,none⟩) hbt).trans hct⟩
         have HBL:=hide fun wx (hx:Below wq.heap.size wq wx)=>HBK.out wx y HO.out ((HB3.out.trans (HB39.out.mono HB3.out.size)).trans (hx.mono (HB3.out.trans (HB39.out.mono HB3.out.size)).size))
         have hsg:=bkN_sign fb y
         generalize bkN fb y=R at *
         rw [HNB.out,← HF.out] at hsg
         have HSG:=hide hsg
         clear hq9 hbq hown hallq hb39 hkf hbt hct hlt9 hmem hy hsg hzs
         go_wp2_with fail
         have hC0:Below wq.heap.size wq wq.drew:=below_drew wq
         have hmix:Tryz.prog.follows .mixedOrders=true:=by kernel_rfl
         refine (wpIn_wide (n:=0)).1 ?_
         refine wpIn_normal (wpIn_region_any hmix (wpAnyE_sound (C:=Below wq.heap.size wq) (E:=fun _=>false) _ _ _ _ ?_))
         change wpAnyE _ _ _ _ _ _ _ _ _ _ _ (World.drew _)
         refine wpAnyE_takeD (i:=0) (some 81) (v:=(.agg #[.int .u32 fi,.int .i64 fa,.slice xp fp.length cp,.slice (some ⟨G,o,none⟩) nb cq,.int .i64 fe])) (fun _=>trivial) (by kernel_rfl) rfl rfl (by kernel_rfl) (by kernel_rfl) (by kernel_rfl) (by kernel_rfl) (fun _ _ _ h=>by cases h.1) hC0 (Or.inl ⟨by kernel_rfl,fun w' hC=>by obtain⟨e1,e2,e3,e4,e5,e6⟩:=LC.out w' hC;clear hC;go_simp⟩) ?_
         simp only [Act.put,ap1,ap2,ap3]
         refine wpAnyE_takeD (i:=1) (some 82) (v:=(.slice (some ⟨bt,ot,none⟩) nt tc)) (fun _=>trivial) (by kernel_rfl) rfl rfl (by kernel_rfl) (by kernel_rfl) (by kernel_rfl) (by kernel_rfl) (fun _ _ _ h=>by cases h.1) hC0 (Or.inl ⟨by kernel_rfl,fun w' hC=>by obtain⟨e1,e2,e3,e4,e5,e6⟩:=LC.out w' hC;clear hC;go_simp⟩) ?_
         simp only [Act.put,ap1,ap2,ap3]
         refine wpAnyE_takeD (i:=2) (some 83) (v:=(.int .i64 (q9:Int))) (fun _=>trivial) (by kernel_rfl) rfl rfl (by kernel_rfl) (by kernel_rfl) (by kernel_rfl) (by kernel_rfl) (fun _ _ _ h=>by cases h.1) hC0 (Or.inl ⟨by kernel_rfl,fun w' hC=>by obtain⟨e1,e2,e3,e4,e5,e6⟩:=LC.out w' hC;clear hC;go_simp⟩) ?_
         simp only [Act.put,ap1,ap2,ap3]
         refine wpAnyE_takeD (i:=3) (some 84) (v:=(.pointer (some ⟨bt,ot+q9,none⟩))) (fun _=>trivial) (by kernel_rfl) rfl rfl (by kernel_rfl) (by kernel_rfl) (by kernel_rfl) (by kernel_rfl) (fun _ _ _ h=>by cases h.1) hC0 (Or.inl ⟨by kernel_rfl,fun w' hC=>by obtain⟨e1,e2,e3,e4,e5,e6⟩:=LC.out w' hC;clear hC;go_simp⟩) ?_
         simp only [Act.put,ap1,ap2,ap3]
         refine wpAnyE_takeD (i:=4) (some 85) (v:=(.int .u32 y)) (fun _=>trivial) (by kernel_rfl) rfl rfl (by kernel_rfl) (by kernel_rfl) (by kernel_rfl) (by kernel_rfl) (fun _ _ _ h=>by cases h.1) hC0 (Or.inl ⟨by kernel_rfl,fun w' hC=>by obtain⟨e1,e2,e3,e4,e5,e6⟩:=LC.out w' hC;clear hC;go_simp⟩) ?_
         simp only [Act.put,ap1,ap2,ap3]
         clear LC
         refine wpAnyE_ready (rs:=[5]) (by kernel_rfl) (by simp) ?_
         refine AllE.cons rfl (fun Kk hK=>?_) AllE.nil
         go_simp
         refine⟨trivial,rfl,(callsIn_wide.2 (HBL.out _ hC0)).mono ?_⟩
         rintro e x1 ⟨rfl,hb1⟩
         dsimp only
         have hC1:=hC0.trans (hb1.mono hC0.size)
         refine hK _ _ (.inr hC1) ?_
         clear hK Kk
         refine wpAnyE_ready (rs:=[6]) (by kernel_rfl) (by simp) ?_
         refine AllE.cons rfl (fun Kk hK=>?_) AllE.nil
         go_simp
         refine hK _ _ (.inr hC1) ?_
         clear hK Kk
         refine wpAnyE_done (by kernel_rfl) ⟨rfl,?_⟩ _
         rw [then_normalLd]
         have HC1:=hide hC1
         have HKBY:=hide ((hC1.block _ (Array.getElem?_eq_some_iff.1 HKBQ.out).1).trans HKBQ.out)
         have HKSY:=hide ((hC1.block _ (Array.getElem?_eq_some_iff.1 HKSQ.out).1).trans HKSQ.out)
         have HB3Y:=hide (HB39.out.trans (hC1.mono HB39.out.size))
         have hsg:=HSG.out
         clear hC0 hC1 hmix hb1 HBL HSG
         rcases hsg with ⟨h1,h2,h3,h4⟩ | ⟨h1,h2,h3,h4,h5⟩
         ·have hNE4:NE=(140,(m:Int)+1):=by
           have hno:¬ okT F l (nthB fb k):=fun h=>h y (by rw [HTA.out];exact HYM.out) h4
           rw [HNE3.out,ldE_at HKL.out HALL.out,drop_nthB HKL.out,ldE,if_neg (by simpa using HOKM.out),if_pos hno,HEB.out]
           show ((140:Int),(m:Int)+2 - 1)=_
           rw [show (m:Int)+2 - 1=(m:Int)+1 by omega]
          have HNE4:=hide hNE4
          have HW6:=hide (wrapL1 (m:=m) (by have:=HN.out;have:=HMN.out;omega))
          have HBWY:=hide (HB3.out.trans (HB3Y.out.mono HB3.out.size))
          have HKK:=hide (Array.getElem?_eq_some_iff.1 HKS.out).1
          obtain⟨z0,z1,_,_⟩:=twoF HKSY.out
          have x0:=(one_block HKSY.out).1 0
          have x2:=(one_block HKSY.out).1 1
          clear hNE4 h3 h4
          go_wp2_with fail
          have hC0:x1.drew.heap[wo.heap.size]?=some (.cells #[.int .u32 z,.int .i64 (q:Int),.int .i64 ((m:Int)+2)] 65 (0,0)):=HKBY.out
          have hmix:Tryz.prog.follows .mixedOrders=true:=by kernel_rfl
          have hkb:wo.heap.size≠B2:=by have:=HKK.out;omega
          have LC:Hid (∀ w':World,w'.heap[wo.heap.size]?=some (.cells #[.int .u32 z,.int .i64 (q:Int),.int .i64 ((m:Int)+2)] 65 (0,0))→w'.cell? ⟨wo.heap.size,2,none⟩=some (.int .i64 ((m:Int)+2))):=fun w' h=>(threeC h).2.2
          refine (wpIn_wide (n:=0)).1 ?_
          refine wpIn_normal (wpIn_region_any hmix (wpAnyE_sound (C:=fun w'=>w'.heap[wo.heap.size]?=some (.cells #[.int .u32 z,.int .i64 (q:Int),.int .i64 ((m:Int)+2)] 65 (0,0))) (E:=fun _=>false) _ _ _ _ ?_))
          change wpAnyE _ _ _ _ _ _ _ _ _ _ _ (World.drew _)
          refine wpAnyE_takeD (i:=0) (some 89) (v:=(.pointer (some ⟨wo.heap.size,2,none⟩))) (fun _=>trivial) (by kernel_rfl) rfl rfl (by kernel_rfl) (by kernel_rfl) (by kernel_rfl) (by kernel_rfl) (fun _ _ _ h=>by cases h.1) hC0 (Or.inl ⟨by kernel_rfl,fun w' hC=>by have e1:=LC.out w' hC;clear hC;go_simp⟩) ?_
          simp only [Act.put,ap1,ap2,ap3]
          refine wpAnyE_takeD (i:=1) (some 90) (v:=(.int .i64 ((m:Int)+2))) (fun _=>trivial) (by kernel_rfl) rfl rfl (by kernel_rfl) (by kernel_rfl) (by kernel_rfl) (by kernel_rfl) (fun _ _ _ h=>by cases h.1) hC0 (Or.inl ⟨by kernel_rfl,fun w' hC=>by have e1:=LC.out w' hC;clear hC;go_simp⟩) ?_
          simp only [Act.put,ap1,ap2,ap3]
          refine wpAnyE_takeD (i:=2) (some 91) (v:=(.int .i64 ((m:Int)+1))) (fun _=>trivial) (by kernel_rfl) rfl rfl (by kernel_rfl) (by kernel_rfl) (by kernel_rfl) (by kernel_rfl) (fun _ _ _ h=>by cases h.1) hC0 (Or.inl ⟨by kernel_rfl,fun w' hC=>by have e1:=LC.out w' hC;clear hC;go_simp;exact HW6.out⟩) ?_
          simp only [Act.put,ap1,ap2,ap3]
          refine wpAnyE_takeD (i:=3) (some 92) (v:=(.agg #[.int .i64 140,.int .i64 ((m:Int)+1)])) (fun _=>trivial) (by kernel_rfl) rfl rfl (by kernel_rfl) (by kernel_rfl) (by kernel_rfl) (by kernel_rfl) (fun _ _ _ h=>by cases h.1) hC0 (Or.inl ⟨by kernel_rfl,fun w' hC=>by have e1:=LC.out w' hC;clear hC;go_simp⟩) ?_
          simp only [Act.put,ap1,ap2,ap3]
          refine wpAnyE_takeD (i:=4) (some 4) (v:=(.pointer none)) (fun _=>trivial) (by kernel_rfl) rfl rfl (by kernel_rfl) (by kernel_rfl) (by kernel_rfl) (by kernel_rfl) (fun _ _ _ h=>by cases h.1) hC0 (Or.inl ⟨by kernel_rfl,fun w' hC=>by have e1:=LC.out w' hC;clear hC;go_simp⟩) ?_
          simp only [Act.put,ap1,ap2,ap3]
          refine wpAnyE_takeD (i:=5) (some 5) (v:=(.slice none 0 0)) (fun _=>trivial) (by kernel_rfl) rfl rfl (by kernel_rfl) (by kernel_rfl) (by kernel_rfl) (by kernel_rfl) (fun _ _ _ h=>by cases h.1) hC0 (Or.inl ⟨by kernel_rfl,fun w' hC=>by have e1:=LC.out w' hC;clear hC;go_simp⟩) ?_
          simp only [Act.put,ap1,ap2,ap3]
          clear LC
          refine wpAnyE_ready (rs:=[6]) (by kernel_rfl) (by simp) ?_
          refine AllE.cons rfl (fun Kk hK=>?_) AllE.nil
          go_simp
          refine hK _ _ (.inr (mgOth (mgOth HKBY.out hkb _) hkb _)) ?_
          clear hK Kk
          refine wpAnyE_done (by kernel_rfl) ⟨rfl,?_⟩ _
          first | rw [then_normalLd] | skip
          go_wp2_with fail
          refine refNewRet (B:=B2) (hv:=.pointer none) (mv:=.slice none 0 0) rfl rfl rfl rfl (spotLd HKSY.out _ _) (rnErr HNE4.out (by decide) ?_)
          first | exact ((HBWY.out.setCell HB2.out.1 _).setCell HB2.out.1 _).drew | exact ((HBWY.out.drew.setCell HB2.out.1 _).setCell HB2.out.1 _) | exact ((HBWY.out.setCell HB2.out.1 _).setCell HB2.out.1 _)
         ·have HR5:Hid (R=numG F y):=h5
          have HR4:Hid (¬ numG F y=0):=h4
          have hneg:¬ R<0:=by omega
          have hb8x:=HBQ.out.trans (HC1.out.mono HBQ.out.size)
          have HB8X:=hide hb8x
          have HOA:=hide (own_below (own_below HOWN.out HC1.out) ((Below.refl x1.heap.size x1).alloc (Nat.le_refl _) (.cells #[.int .i64 R] 3)))
          have HWK:=hide (wrapQ14 HLQ.out HTL.out)
          clear h3 h4 h5 hb8x
          go_wp2_with (at_builtin;refine wpList_app1 rfl (.tmp 93) (.tmp 95) rfl w8.heap.size _ zs R rfl x1.heap.size rfl (allocNew _ _ rfl) HOA.out (by have:=HTL.out;have:=HLQ.out;have:=HZL.out;omega) (by rw [World.size_alloc];have:=HB8X.out.size;omega) ?_)
          intro g cap w6 ho6 hg6 _
          have HB6:=hide ((HB8X.out.alloc HB8X.out.size _).grown hg6 (by rw [World.size_alloc];have:=HB8X.out.size;omega) (fun j e=>(World.ownsRow.lt HOA.out j e).1))
          have HO6:Hid (w6.ownsRow w8.heap.size 3 1 (.slice (some ⟨g,0,none⟩) (zs.length+1) cap) (((tg.take (q9+1)).map (numG F)).length) (((tg.take (q9+1)).map (numG F)).map (Value.int .i64))):=by
           show w6.ownsRow _ _ _ _ _ _
           rw [HSN.out,← HR5.out]
           simpa using ho6
          clear ho6 hg6 HOA
          go_wp2_with fail
          exact⟨⟨q9+1,HLQ.out,by first | (rw [HWK.out];simp) | simp,HB6.out,HO6.out,fun j hj=>(by by_cases e:j=q9;exact (by subst e;rw [HYY.out];exact HR4.out);exact HALQ.out j (by omega))⟩,by first | (rw [HWK.out];exact measZ2 HLQ.out) | exact measZ2 HLQ.out⟩
        ·have e:nt=q9:=by omega
         subst e
         have hfull:tg.take nt=tg:=List.take_of_length_le (by rw [HTN.out];exact Nat.le_refl _)
         rw [hfull] at hown
         have hldn:ldN F l (nthB fb k)=tg.map (numG F):=by unfold ldN;rw [HTA.out]
         rw [← hldn] at hown
         have hokT:okT F l (nthB fb k):=fun x hx=>by
          rw [HTA.out] at hx
          obtain⟨j,hj,e⟩:=List.getElem_of_mem hx
          have:=hallq j (by rw [HTN.out] at hj;exact hj)
          simpa [nth,List.getD,hj,e] using this
         have HOKT:=hide hokT
         obtain⟨nv,hnv⟩:∃ nv,nv=ldN F l (nthB fb k):=⟨_,rfl⟩
         rw [← hnv] at hown
         have HNV:=hide hnv
         obtain⟨a15,c15,hu15⟩:=own_shapeG hown
         generalize hln:nv.length=ln at *
         have HLN:=hide hln
         subst hu15
         have HBA:=hide ((Below.refl wq.heap.size wq).alloc (Nat.le_refl _) (.cells #[.slice a15 ln c15] 26))
         have HOW2:=hide (own_mono (own_below hown HBA.out) HS78.out.size)
         have HB7Q:=hide (HS78.out.trans (hbq.mono HS78.out.size))
         have HB7A:=hide (HB7Q.out.trans (HBA.out.mono HB7Q.out.size))
         have HB3A:=hide (HB39.out.trans (HBA.out.mono HB39.out.size))
         have HKBA:=hide (allocOld HKBQ.out (.cells #[.slice a15 ln c15] 26))
         have hwk:=wrapJ HLT.out (by have:=H4.out;omega)
         have HWK:=hide hwk
         clear hfull hldn hokT hnv hown hallq hbq hb39 hkf hlt9 hq9 HALQ HOWN HBA hwk hln
         go_wp2_with (at_builtin;refine wpList_leadN rfl (.tmp 97) (.tmp 99) rfl HL7.out HB7A.out HB37.out.size (L:=nv) (by rw [HLN.out];exact HOW2.out) rfl wq.heap.size rfl (allocNew _ _ rfl) (by rw [List.length_map,List.length_take];have:=H4.out;have:=HLT.out;omega) ?_)
         intro hv' w9 hLR9 hg9
         have hw9:=afterPush HB3A.out hg9 (fun g e=>⟨(HBO.out.1 g e).1,(HBO.out.1 g e).2⟩) HKBA.out
         have HB99:=hide hw9.1
         have HL9:Hid (LeadR w9 w3.heap.size hv' ((fb.take (k+1)).map (ldN F l)) mv' ((fb.take (k+1)).map (ldM F l))):=by
          show LeadR _ _ _ _ _ _
          rw [mapTake (ldN F l) _ _ HKL.out,← HNV.out]
          simpa only [List.map_take] using hLR9
         clear hw9 hLR9 hg9 HL7 HB7A HB3A HKBA HOW2
         go_wp2_with fail
         exact⟨⟨k+1,HLT.out,by first | (rw [HWK.out];simp) | simp,HB99.out,HL9.out,fun j hj=>(by by_cases e:j=k;exact (by subst e;exact⟨HOKM.out,HOKT.out⟩);exact HALL.out j (by omega))⟩,by first | (rw [HWK.out];exact measZ2 HLT.out) | exact measZ2 HLT.out⟩
      ·have hNE4:NE=(140,(m:Int)):=by
        rw [HNE3.out,ldE_at HKL.out HALL.out,drop_nthB HKL.out,ldE,HEB.out,if_pos hno]
        show ((140:Int),(m:Int)+2 - 2)=_
        rw [show (m:Int)+2 - 2=(m:Int) by omega]
       have HNE4:=hide hNE4
       have HW6:=hide (wrapL0 (m:=m) (by have:=HN.out;have:=HMN.out;omega))
       have HKS6:=hide (allocOld HKS5.out (.cells #[.int .u8 k1,.int .i64 k2,.int .i64 k3] 96))
       have HKB6:=hide (allocOld HKB5.out (.cells #[.int .u8 k1,.int .i64 k2,.int .i64 k3] 96))
       have HB6:=hide (HB5.out.trans (((Below.refl _ w5).alloc (Nat.le_refl _) (.cells #[.int .u8 k1,.int .i64 k2,.int .i64 k3] 96)).mono HB5.out.size))
       have HKK:=hide (Array.getElem?_eq_some_iff.1 HKS.out).1
       obtain⟨z0,z1,_,_⟩:=twoF HKS6.out
       have x0:=(one_block HKS6.out).1 0
       have x1:=(one_block HKS6.out).1 1
       clear hno hNE4 hb5
       go_wp2_with fail
       generalize World.alloc w5 _=U at *
       have hC0:U.drew.heap[wo.heap.size]?=some (.cells #[.int .u32 z,.int .i64 (q:Int),.int .i64 ((m:Int)+2)] 65 (0,0)):=HKB6.out
       have hmix:Tryz.prog.follows .mixedOrders=true:=by kernel_rfl
       have hkb:wo.heap.size≠B2:=by have:=HKK.out;omega
       have LC:Hid (∀ w':World,w'.heap[wo.heap.size]?=some (.cells #[.int .u32 z,.int .i64 (q:Int),.int .i64 ((m:Int)+2)] 65 (0,0))→w'.cell? ⟨wo.heap.size,2,none⟩=some (.int .i64 ((m:Int)+2))):=fun w' h=>(threeC h).2.2
       refine (wpIn_wide (n:=0)).1 ?_
       refine wpIn_normal (wpIn_region_any hmix (wpAnyE_sound (C:=fun w'=>w'.heap[wo.heap.size]?=some (.cells #[.int .u32 z,.int .i64 (q:Int),.int .i64 ((m:Int)+2)] 65 (0,0))) (E:=fun _=>false) _ _ _ _ ?_))
       change wpAnyE _ _ _ _ _ _ _ _ _ _ _ (World.drew _)
       refine wpAnyE_takeD (i:=0) (some 59) (v:=(.pointer (some ⟨wo.heap.size,2,none⟩))) (fun _=>trivial) (by kernel_rfl) rfl rfl (by kernel_rfl) (by kernel_rfl) (by kernel_rfl) (by kernel_rfl) (fun _ _ _ h=>by cases h.1) hC0 (Or.inl ⟨by kernel_rfl,fun w' hC=>by have e1:=LC.out w' hC;clear hC;go_simp⟩) ?_
       simp only [Act.put,ap1,ap2,ap3]
       refine wpAnyE_takeD (i:=1) (some 60) (v:=(.int .i64 ((m:Int)+2))) (fun _=>trivial) (by kernel_rfl) rfl rfl (by kernel_rfl) (by kernel_rfl) (by kernel_rfl) (by kernel_rfl) (fun _ _ _ h=>by cases h.1) hC0 (Or.inl ⟨by kernel_rfl,fun w' hC=>by have e1:=LC.out w' hC;clear hC;go_simp⟩) ?_
       simp only [Act.put,ap1,ap2,ap3]
       refine wpAnyE_takeD (i:=2) (some 61) (v:=(.int .i64 (m:Int))) (fun _=>trivial) (by kernel_rfl) rfl rfl (by kernel_rfl) (by kernel_rfl) (by kernel_rfl) (by kernel_rfl) (fun _ _ _ h=>by cases h.1) hC0 (Or.inl ⟨by kernel_rfl,fun w' hC=>by have e1:=LC.out w' hC;clear hC;go_simp;exact HW6.out⟩) ?_
       simp only [Act.put,ap1,ap2,ap3]
       refine wpAnyE_takeD (i:=3) (some 62) (v:=(.agg #[.int .i64 140,.int .i64 (m:Int)])) (fun _=>trivial) (by kernel_rfl) rfl rfl (by kernel_rfl) (by kernel_rfl) (by kernel_rfl) (by kernel_rfl) (fun _ _ _ h=>by cases h.1) hC0 (Or.inl ⟨by kernel_rfl,fun w' hC=>by have e1:=LC.out w' hC;clear hC;go_simp⟩) ?_
       simp only [Act.put,ap1,ap2,ap3]
       refine wpAnyE_takeD (i:=4) (some 4) (v:=(.pointer none)) (fun _=>trivial) (by kernel_rfl) rfl rfl (by kernel_rfl) (by kernel_rfl) (by kernel_rfl) (by kernel_rfl) (fun _ _ _ h=>by cases h.1) hC0 (Or.inl ⟨by kernel_rfl,fun w' hC=>by have e1:=LC.out w' hC;clear hC;go_simp⟩) ?_
       simp only [Act.put,ap1,ap2,ap3]
       refine wpAnyE_takeD (i:=5) (some 5) (v:=(.slice none 0 0)) (fun _=>trivial) (by kernel_rfl) rfl rfl (by kernel_rfl) (by kernel_rfl) (by kernel_rfl) (by kernel_rfl) (fun _ _ _ h=>by cases h.1) hC0 (Or.inl ⟨by kernel_rfl,fun w' hC=>by have e1:=LC.out w' hC;clear hC;go_simp⟩) ?_
       simp only [Act.put,ap1,ap2,ap3]
       clear LC
       refine wpAnyE_ready (rs:=[6]) (by kernel_rfl) (by simp) ?_
       refine AllE.cons rfl (fun Kk hK=>?_) AllE.nil
       go_simp
       refine hK _ _ (.inr (mgOth (mgOth HKB6.out hkb _) hkb _)) ?_
       clear hK Kk
       refine wpAnyE_done (by kernel_rfl) ⟨rfl,?_⟩ _
       first | rw [then_normalLd] | skip
       go_wp2_with fail
       refine refNewRet (B:=B2) (hv:=.pointer none) (mv:=.slice none 0 0) rfl rfl rfl rfl (spotLd HKS6.out _ _) (rnErr HNE4.out (by decide) ?_)
       first | exact ((HB6.out.setCell HB2.out.1 _).setCell HB2.out.1 _).drew | exact ((HB6.out.drew.setCell HB2.out.1 _).setCell HB2.out.1 _) | exact ((HB6.out.setCell HB2.out.1 _).setCell HB2.out.1 _)
     ·have e:nb=k:=by omega
      subst e
      have hall9:∀ b∈fb,okM F l b∧okT F l b:=fun b hb=>by
       obtain⟨j,hj,e⟩:=List.getElem_of_mem hb
       have:=hall j (by have:=HNB.out;omega)
       simpa [nthB,List.getD,hj,e] using this
      have htk:fb.take nb=fb:=List.take_of_length_le (by rw [HNB.out];exact Nat.le_refl _)
      rw [htk,← HNN3.out,← HMM3.out] at hLR
      have hNE4:NE=(0,0):=by rw [HNE3.out];exact ldE_ok hall9
      have hlen:NN.length=nb:=by rw [HNN3.out,List.length_map];exact HNB.out
      have hed:∀ j x,x∈rowN NN j→0<x∧x<(nb:Int):=by
       intro j x hx
       rw [HNN3.out,HF.out,← HNB.out] at hx
       have hq:∀ b∈fb,okM (numT fb fb.length) l b∧okT (numT fb fb.length) l b:=by
        rw [HNB.out,← HF.out];exact hall9
       have:=lead_edges hq j x hx
       rw [HNB.out] at this
       exact this
      have hfew:∀ j,8 * (rowN NN j).length≤140737488351232:=by
       intro j;rw [HNN3.out];exact lead_few HOK.out _ j
      have hmg:=hLR.merges
      obtain⟨a9,c9,hu8,hlv⟩:=hLR.lv
      rw [hlen] at hu8
      subst hu8
      have h4:=H4.out
      have hof:=refOf14_any a9 nb c9 NN wo hlv hlen (by omega) hfew
      have HED:Hid (Edges NN.length NN):=fun j x hx=>by
       have:=hed j x hx
       rw [hlen]
       exact⟨Int.le_of_lt this.1,this.2⟩
      have HLE:=hide hlen
      have HMG9:=hide hmg
      have HN4:=hide hNE4
      obtain⟨_,_,_,y3,_⟩:=fiveCells hkf
      clear hall9 htk hNE4 hlen hed hfew hmg hlv hLR HLR HALL hall hk hlt h4 hkm hkf hbr hbw
      go_wp2_with fail
      refine hof.mono ?_
      rintro e w6 hq6
      obtain⟨wp,er,rfl,hE,hb6,hR1,hR0⟩:=rfQ_open hq6
      have er0:er=0:=ofE_uniq hE (.inr (.inr (.inr ⟨by rw [HLE.out];have:=HPOS.out;omega,by rw [HLE.out];exact H4.out,HED.out,rfl⟩)))
      subst er0
      obtain⟨p,rfl,hG⟩:=hR1 rfl
      have hks:=(hb6.block _ (Array.getElem?_eq_some_iff.1 HKS.out).1).trans HKS.out
      have HK6:=hide hks
      have hpne:p≠B2:=fun e=>by
       obtain⟨nv,h1,_⟩:=hG.mem.mem
       rw [e,hks] at h1
       simp at h1
      have HPN:=hide hpne
      have HG:=hide hG
      have HM6:=hide (own_below HMG9.out hb6)
      have HB6:=hide (HBW.out.trans (hb6.mono HBW.out.size))
      have HB36:=hide hb6.size
      obtain⟨z0,z1,_,_⟩:=twoF hks
      have x0:=(one_block hks).1 0
      have x1:=(one_block hks).1 1
      clear hof y3 hq6 hE hb6 hR1 hR0 hks hpne hG
      go_wp2_with fail
      have hms:=own_kept (own_kept HM6.out (grown_setCell w6 B2 0 (.int .i64 0)) (fun g e=>by cases e;exact HB2w.out)) (grown_setCell _ B2 1 (.int .i64 0)) (fun g e=>by cases e;exact HB2w.out)
      obtain⟨x9,c8,he9,hmv⟩:=MgV.ofOwn hms
      have hlo:B2<wo.heap.size:=(Array.getElem?_eq_some_iff.1 HKS.out).1
      exact refNewRet (B:=B2) (hv:=.pointer (some ⟨p,0,none⟩)) (mv:=u9) rfl rfl rfl rfl (spotLd HK6.out _ _) (rnOk HN4.out ((HB6.out.setCell HB2.out.1 _).setCell HB2.out.1 _) ((HG.out.set hlo HPN.out _).set hlo HPN.out _) he9 hmv)
 ·have HNE2:Hid (NE=(E1,e2)):=HEE.out hE1
  have HE1:=hide hE1
  have hb0:(E1==0)=false:=by simpa using hE1
  have hbn:(E1 != 0)=true:=by simpa using hE1
  obtain⟨z0,z1,_,_⟩:=twoF HKS1.out
  have x0:=(one_block HKS1.out).1 0
  have x1:=(one_block HKS1.out).1 1
  have HK7:=hide hk7
  clear hk7 hE1 HIS HEE HKN HMG HBK HFF
  go_wp2_with fail
  generalize World.alloc w1 _=W1 at *
  have hC0:W1.drew.heap[w1.heap.size]?=some (.cells #[.int .i64 E1,.int .i64 e2] 33 (0,0)):=HK7.out
  have hmix:Tryz.prog.follows .mixedOrders=true:=by kernel_rfl
  have hkb:w1.heap.size≠B2:=by have:=HB2.out;omega
  have LC:Hid (∀ w':World,w'.heap[w1.heap.size]?=some (.cells #[.int .i64 E1,.int .i64 e2] 33 (0,0))→w'.cell? ⟨w1.heap.size,0,none⟩=some (.int .i64 E1)∧w'.cell? ⟨w1.heap.size,1,none⟩=some (.int .i64 e2)):=fun w' h=>⟨(one_block h).1 0,(one_block h).1 1⟩
  refine (wpIn_wide (n:=0)).1 ?_
  refine wpIn_normal (wpIn_region_any hmix (wpAnyE_sound (C:=fun w'=>w'.heap[w1.heap.size]?=some (.cells #[.int .i64 E1,.int .i64 e2] 33 (0,0))) (E:=fun _=>false) _ _ _ _ ?_))
  change wpAnyE _ _ _ _ _ _ _ _ _ _ _ (World.drew _)
  refine wpAnyE_takeD (i:=0) (some 25) (v:=(.agg #[.int .i64 E1,.int .i64 e2])) (fun _=>trivial) (by kernel_rfl) rfl rfl (by kernel_rfl) (by kernel_rfl) (by kernel_rfl) (by kernel_rfl) (fun _ _ _ h=>by cases h.1) hC0 (Or.inl ⟨by kernel_rfl,fun w' hC=>by obtain⟨e1,e2⟩:=LC.out w' hC;clear hC;go_simp⟩) ?_
  simp only [Act.put,ap1,ap2,ap3]
  refine wpAnyE_takeD (i:=1) (some 4) (v:=(.pointer none)) (fun _=>trivial) (by kernel_rfl) rfl rfl (by kernel_rfl) (by kernel_rfl) (by kernel_rfl) (by kernel_rfl) (fun _ _ _ h=>by cases h.1) hC0 (Or.inl ⟨by kernel_rfl,fun w' hC=>by obtain⟨e1,e2⟩:=LC.out w' hC;clear hC;go_simp⟩) ?_
  simp only [Act.put,ap1,ap2,ap3]
  refine wpAnyE_takeD (i:=2) (some 5) (v:=(.slice none 0 0)) (fun _=>trivial) (by kernel_rfl) rfl rfl (by kernel_rfl) (by kernel_rfl) (by kernel_rfl) (by kernel_rfl) (fun _ _ _ h=>by cases h.1) hC0 (Or.inl ⟨by kernel_rfl,fun w' hC=>by obtain⟨e1,e2⟩:=LC.out w' hC;clear hC;go_simp⟩) ?_
  simp only [Act.put,ap1,ap2,ap3]
  clear LC
  refine wpAnyE_ready (rs:=[3]) (by kernel_rfl) (by simp) ?_
  refine AllE.cons rfl (fun Kk hK=>?_) AllE.nil
  go_simp
  refine hK _ _ (.inr (mgOth (mgOth HK7.out hkb _) hkb _)) ?_
  clear hK Kk
  refine wpAnyE_done (by kernel_rfl) ⟨rfl,?_⟩ _
  first | rw [then_normalLd] | skip
  go_wp2_with fail
  refine refNewRet (B:=B2) (hv:=.pointer none) (mv:=.slice none 0 0) rfl rfl rfl rfl (spotLd HKS1.out _ _) (rnErr HNE2.out HE1.out ?_)
  first | exact ((HB1.out.setCell HB2.out.1 _).setCell HB2.out.1 _).drew | exact ((HB1.out.drew.setCell HB2.out.1 _).setCell HB2.out.1 _) | exact ((HB1.out.setCell HB2.out.1 _).setCell HB2.out.1 _)
end Go.Proofs.YtlcaedibmlidlaaGreat
