/-
  Texts in one: GraphMerges, GraphLeads, Ref03Letter, Ref03Fits, GraphTargets.
-/
import Derived.Test.YtlcaedibmlidlaaGreatB17
namespace Go.Proofs.YtlcaedibmlidlaaGreat
open Go.RowKit Go.Maps
set_option linter.unusedVariables false
set_option linter.unusedSimpArgs false
set_option maxRecDepth 10000
theorem wpList_app2 {w:World} {ops:Array Oper} {rest:List Oper} {o:Oper} {a:Act} {Q:Exit→Act→World→Prop} (hgd:o.guard=none) (s x:Operand) (ho:o.op=.call { callee:=.builtin .append,args:=#[s,x],argTypes:=#[26,26] })
  (lo:Nat) (v:Value) (zs:List Int) (y z:Int) (hs:a.eval s=v) (B:Nat) (hx:a.eval x=.slice (some ⟨B,0,none⟩) 2 2) (hB:w.heap[B]?=some (.cells #[.int .i64 y,.int .i64 z] 3 (0,0))) (hown:w.ownsRow lo 3 1 v zs.length (zs.map (Value.int .i64))) (hn:zs.length<17592186044414) (hlo:lo≤w.heap.size)
  (h:∀ g cap w',w'.ownsRow lo 3 1 (.slice (some ⟨g,0,none⟩) (zs.length+2) cap) (zs++[y,z]).length ((zs++[y,z]).map (Value.int .i64))→w.grownBy w' v.ownBlock→(v.ownBlock=some g∨g=w.heap.size)→wpList Tryz.prog ops Q rest (a.put o.dst (.slice (some ⟨g,0,none⟩) (zs.length+2) cap)) w'):wpList Tryz.prog ops Q (o :: rest) a w:=by
 obtain⟨i0,hi,hz0,hz1,hz2⟩:=info_parts GrInts.info
 refine wpList_append_lies w hgd s x 26 ho lo 3 i0 (.int .i64 0) 1 8 Tryz.underlying26 hi hz0 hz1 hz2 rfl (by decide) v zs.length (zs.map (Value.int .i64)) hs hown ⟨B,0,none⟩ 2 2 [.int .i64 y,.int .i64 z] hx rfl (World.news_of_block (cs:=#[.int .i64 y,.int .i64 z]) (t:=3) (fr:=(0,0)) hB) (by intro u hu;simp at hu;rcases hu with rfl | rfl <;> rfl) (by decide) (by unfold maxLen;omega) (by omega) hlo w.heap.size rfl ?_
 intro g cap w' h1 h2 h3 _
 exact h g cap w' (by simpa using h1) h2 h3
def mgV (f:Int→Option Int) (r:Int×List Int):Value:=.agg #[.int .u8 r.1,.int .i64 (nth (r.2.map (numG f)++[-1,-1]) 0),.int .i64 (nth (r.2.map (numG f)++[-1,-1]) 1)]
def MergeQ (w w':World) (f:Int→Option Int) (r:Int×List Int) (e:Ending):Prop :=
 (((∀ x∈r.2,¬ numG f x=0)∧e=.returned (.tuple #[mgV f r,.bool true])) ∨
 ((¬ ∀ x∈r.2,¬ numG f x=0)∧e=.returned (.tuple #[.agg #[.int .u8 0,.int .i64 0,.int .i64 0],.bool false])))∧Below w.heap.size w w'
theorem three_set {W:World} {b T:Nat} {x0 x1 x2:Value} (h:W.heap[b]?=some (.cells #[x0,x1,x2] T (0,0))) (u0 u1 u2:Value) :
  (((W.setCell ⟨b,0,none⟩ u0).setCell ⟨b,1,none⟩ u1).setCell ⟨b,2,none⟩ u2).heap[b]?=some (.cells #[u0,u1,u2] T (0,0)):=by
 simp [World.setCell,Array.getElem?_modify,h]
theorem three_below {w W:World} (h:Below w.heap.size w W) {b:Nat} (hb:w.heap.size≤b) (u0 u1 u2:Value):Below w.heap.size w (((W.setCell ⟨b,0,none⟩ u0).setCell ⟨b,1,none⟩ u1).setCell ⟨b,2,none⟩ u2):=((h.setCell hb _).setCell hb _).setCell hb _
theorem mergeRet (w:World) (f:Int→Option Int) (r:Int×List Int) (B:Nat) (a':Act) (Z:World) (k t c:Int) (q:Bool) (h6:slot a'.tmps 6=.pointer (some ⟨B,0,none⟩)) (h7:slot a'.tmps 7=.bool q) (hd:a'.defers=[]) (hZ:Z.heap[B]?=some (.cells #[.int .u8 k,.int .i64 t,.int .i64 c] 96 (0,0)))
  (hq:MergeQ w Z f r (.returned (.tuple #[.agg #[.int .u8 k,.int .i64 t,.int .i64 c],.bool q]))):bodyPost Tryz.prog Tryz.f91 (fun e w'=>MergeQ w w' f r e) .ret a' Z:=by
 have r6:=run_loadVar_mid (P:=Tryz.prog) Z B 0 96 [.int .u8 k,.int .i64 t,.int .i64 c] _ (range_of_block hZ) Tryz.underlying96 rfl (by kernel_rfl)
 refine bodyPost_ret (v:=.tuple #[.agg #[.int .u8 k,.int .i64 t,.int .i64 c],.bool q]) ?_ hd hq
 have g6:a'.tmps.getD 6 undef=.pointer (some ⟨B,0,none⟩):=h6
 have g7:a'.tmps.getD 7 undef=.bool q:=h7
 simp only [results,Tryz.results91,List.mapM_toArray,List.mapM_cons,List.mapM_nil,g6,g7,asAddr,Sem.run_bind,Sem.run_pure,Result.andThen_ok,bind_assoc,pure_bind,Sem.run_map,map_pure,r6]
 rfl
set_option maxHeartbeats 8000000 in
theorem merge_any (M nm:Nat) (f:Int→Option Int) (x y:InstT) (a b:Option Addr) (n c m d:Nat) (w:World) (hm:MapU w 3 .i64 M nm f) (hv:ArgsV w a x.2.2.2) (hok:ArgsOk x.2.2.2) (hl:x.2.2.2.length=n) (h246:x.1=246→2≤n) (h247:x.1=247→1≤n) :
  Calls Tryz.prog 91 #[.map (some M),instV x a n c,instV y b m d] w fun e w'=>MergeQ w w' f (mgOf x.1 y.1 x.2.2.2) e:=by
 have HMO:=hide (fun (wx:World) (hx:Below w.heap.size w wx)=>mergeOf_any x y a b n c m d wx (hv.below hx) hl h246 h247)
 have HSM:Hid ((mgOf x.1 y.1 x.2.2.2).2.length≤2∧∀ z∈(mgOf x.1 y.1 x.2.2.2).2,0≤z∧z<4294967296):=by
  have hn:∀ k,0≤(nthA x.2.2.2 k).2.1∧(nthA x.2.2.2 k).2.1<4294967296:=fun k=>by
   by_cases hk:k<x.2.2.2.length
   ·exact⟨(hok k hk).2.2.1,(hok k hk).2.2.2.1⟩
   ·have:nthA x.2.2.2 k=nthA [] k:=by unfold nthA;rw [List.getD_eq_getElem?_getD,List.getElem?_eq_none (by omega)];rfl
    rw [this]
    simp [nthA,List.getD]
    decide
  show _∧_
  unfold mgOf
  split
  ·refine⟨by simp,fun z hz=>?_⟩
   simp at hz
   rcases hz with rfl | rfl <;> exact hn _
  ·split
   ·split
    ·refine⟨by simp,fun z hz=>?_⟩
     simp at hz
     subst hz;exact hn _
    ·refine⟨by simp,fun z hz=>?_⟩
     simp at hz
     subst hz;exact hn _
   ·exact⟨by simp,fun z hz=>by simp at hz⟩
 have HFI:=hide (fun (wx:World) (hx:Below w.heap.size w wx) (a:Option Addr) (n c:Nat) (ls:List Int) (h1:View .u32 wx a ls) (h2:ls.length=n) (h3:8 * n≤140737488351232) (h4:∀ x∈ls,0≤x∧x<4294967296)=>find_any M nm f a n c ls wx (hm.below hx) h1 h2 h3 h4)
 generalize mgOf x.1 y.1 x.2.2.2=r at *
 obtain⟨xo,xt,xr,l⟩:=x
 obtain⟨yo,yt,yr,l2⟩:=y
 unfold instV at *
 simp only at *
 clear hm hv hok hl h246 h247
 obtain⟨rk,rl⟩:=r
 have hbw:Below w.heap.size w (((w.alloc (.cells #[.int .u16 xo,.int .u32 xt,.int .u32 xr,.slice a n c] 63)).alloc (.cells #[.int .u16 yo,.int .u32 yt,.int .u32 yr,.slice b m d] 63)).alloc (.cells #[.int .u8 0,.int .i64 0,.int .i64 0] 96)):=(((Below.refl _ w).alloc (Nat.le_refl _) _).alloc (by simp) _).alloc (by simp;omega) _
 have hbx:=allocNew ((w.alloc (.cells #[.int .u16 xo,.int .u32 xt,.int .u32 xr,.slice a n c] 63)).alloc (.cells #[.int .u16 yo,.int .u32 yt,.int .u32 yr,.slice b m d] 63)) (.cells #[.int .u8 0,.int .i64 0,.int .i64 0] 96) (n:=w.heap.size+1+1) (by simp)
 have HBW:=hide hbw
 have HBX:=hide hbx
 clear hbw hbx
 go_enter Tryz.func91,Tryz.ntmps91
 go_wp2_with fail
 generalize World.alloc (World.alloc (World.alloc w _) _) _=W at *
 refine (HMO.out _ HBW.out).mono ?_
 rintro e w1 ⟨a1,c1,rfl,hv1,hb1⟩
 have HB1:=hide (HBW.out.trans (hb1.mono HBW.out.size))
 have hX1:=(hb1.block _ (Array.getElem?_eq_some_iff.1 HBX.out).1).trans HBX.out
 have HX1:=hide hX1
 have hF:=HFI.out w1 HB1.out a1 _ c1 rl hv1 rfl (by have:=HSM.out.1;omega) HSM.out.2
 clear hv1 hb1 hX1
 go_wp2_with fail
 refine hF.mono ?_
 rintro e w2 hq
 clear hF
 rcases hq with ⟨hall,v,rfl,hown,hb2⟩ | ⟨hno,rfl,hb2⟩
 ·obtain⟨a5,c5,rfl⟩:=own_shapeG hown
  have HALL:=hide hall
  have HLE:Hid ((rl.map (numG f)).length≤2):=by show _≤_;rw [List.length_map];exact HSM.out.1
  have HMV:Hid (mgV f (rk,rl)=.agg #[.int .u8 rk,.int .i64 (nth (rl.map (numG f)++[-1,-1]) 0),.int .i64 (nth (rl.map (numG f)++[-1,-1]) 1)]):=rfl
  generalize rl.map (numG f)=zs at *
  have hX2:=(hb2.block _ (Array.getElem?_eq_some_iff.1 HX1.out).1).trans HX1.out
  have HX2:=hide hX2
  have HB2:=hide (HB1.out.trans (hb2.mono HB1.out.size))
  have HSZ:=hide HB1.out.size
  have HO2:=hide (own_below hown ((Below.refl _ _).alloc (Nat.le_refl _) (.cells #[.int .i64 (-1),.int .i64 (-1)] 3)))
  have HL2:=hide hb2.size
  clear hall hown hb2 hX2
  go_wp2_with (at_builtin;refine wpList_app2 rfl (.tmp 27) (.tmp 28) rfl w1.heap.size _ zs (-1) (-1) rfl w2.heap.size rfl (allocNew _ _ rfl) HO2.out (by have:=HLE.out;omega) (by have:=HL2.out;simp;omega) ?_)
  intro g cap w5 ho5 hg5 _
  have hgs:∀ q,(Value.slice a5 zs.length c5).ownBlock=some q→w1.heap.size≤q:=fun q e=>(World.ownsRow.lt HO2.out q e).1
  have HB5:Hid (Below w.heap.size w w5):=(HB2.out.alloc HB2.out.size _).grown hg5 (by have:=HB2.out.size;simp;omega) (fun q e=>by have:=hgs q e;have:=HSZ.out;omega)
  have hX5:w5.heap[w.heap.size+1+1]?=some (.cells #[.int .u8 0,.int .i64 0,.int .i64 0] 96 (0,0)):=by
   have h1:=(Array.getElem?_eq_some_iff.1 HX1.out).1
   have h2:=(Array.getElem?_eq_some_iff.1 HX2.out).1
   refine (hg5.block _ (by simp;omega) (fun e=>by have:=hgs _ e.symm;omega)).trans ?_
   exact allocOld HX2.out _
  have hv5:View .i64 w5 (some ⟨g,0,none⟩) (zs++[-1,-1]):=View.ofOwn (zs:=zs++[-1,-1]) (by simpa using ho5) rfl
  have hlen:(zs++[-1,-1]).length=zs.length+2:=by simp
  obtain⟨B0,o0,e0,hB0,d0⟩:=hv5 0 (by omega)
  obtain⟨B1,o1,e1,hB1,d1⟩:=hv5 1 (by omega)
  injection e0 with e0;injection e0 with e2 e3 _;subst e2;subst e3
  injection e1 with e1;injection e1 with e4 e5 _;subst e4;subst e5
  have HX5:=hide hX5
  have x0:=(one_block hX5).1 0
  have x1:=(one_block hX5).1 1
  have x2:=(one_block hX5).1 2
  have y0:=(one_block hX5).2 0
  have y1:=(one_block hX5).2 1
  have y2:=(one_block hX5).2 2
  simp only [Nat.add_zero,Nat.zero_add] at d0 d1
  have g0:(0:Int)<((zs.length+2:Nat):Int):=by omega
  have g1:(1:Int)<((zs.length+2:Nat):Int):=by omega
  generalize nth (zs++[-1,-1]) 0=z0 at *
  generalize nth (zs++[-1,-1]) 1=z1 at *
  clear hX5 hv5 ho5 hg5 hgs hlen HX1 HX2 HB2 HO2 HBX HFI HMO
  go_wp2_with fail
  go_region_with (fail)
  all_goals
   go_wp2_with fail
   refine mergeRet _ _ _ (w.heap.size+1+1) _ _ rk z0 z1 true rfl rfl rfl (three_set HX5.out _ _ _) ⟨.inl ⟨HALL.out,?_⟩,(three_below HB5.out (by omega) _ _ _).drew⟩
   rw [HMV.out]
 ·have HNO:=hide hno
  have hX2:=(hb2.block _ (Array.getElem?_eq_some_iff.1 HX1.out).1).trans HX1.out
  have HX2:=hide hX2
  have HB2:=hide (HB1.out.trans (hb2.mono HB1.out.size))
  have x0:=(one_block hX2).1 0
  have x1:=(one_block hX2).1 1
  have x2:=(one_block hX2).1 2
  have y0:=(one_block hX2).2 0
  have y1:=(one_block hX2).2 1
  have y2:=(one_block hX2).2 2
  clear hb2 hX2 hno
  go_wp2_with fail
  exact mergeRet _ _ _ (w.heap.size+1+1) _ _ 0 0 0 false rfl rfl rfl (three_set HX2.out _ _ _) ⟨.inr ⟨HNO.out,rfl⟩,three_below HB2.out (by omega) _ _ _⟩
end Go.Proofs.YtlcaedibmlidlaaGreat
namespace Go.Proofs.YtlcaedibmlidlaaGreat
open Go.RowKit
set_option linter.unusedVariables false
set_option linter.unusedSimpArgs false
set_option maxRecDepth 10000
def numT (bs:List (Int×Int×Int)):Nat→Int→Option Int
 | 0=>fun _=>none
 | k+1=>fun y=>if y=(nthB bs k).1 then some (k:Int) else numT bs k y
theorem RowsX.fresh {ι:Type} {w:World} {lo B:Nat} {In In':ι→Prop} {R R':ι→RowX} (h:RowsX w lo In R) (i:ι) (hin:∀ q,In' q→q≠i→In q) (hs:∀ q,In q→q≠i→R' q=R q) (ho:(R' i).own w lo) (hB:∀ g,(R' i).v.ownBlock=some g→B≤g) (hlt:∀ q,In q→∀ g,(R q).v.ownBlock=some g→g<B):RowsX w lo In' R':=by
 constructor
 ·intro q hq
  by_cases e:q=i
  ·rw [e];exact ho
  ·rw [hs q (hin q hq e) e];exact h.own q (hin q hq e)
 ·intro q q' hq hq' hne g e1 e2
  by_cases e:q=i
  ·subst e
   have hq'i:q'≠q:=fun e=>hne e.symm
   rw [hs q' (hin q' hq' hq'i) hq'i] at e2
   have:=hB g e1;have:=hlt q' (hin q' hq' hq'i) g e2;omega
  ·rw [hs q (hin q hq e) e] at e1
   by_cases e':q'=i
   ·subst e'
    have:=hB g e2;have:=hlt q (hin q hq e) g e1;omega
   ·rw [hs q' (hin q' hq' e') e'] at e2
    exact h.apart q q' (hin q hq e) (hin q' hq' e') hne g e1 e2
def mgC (m:Int×Int×Int):List Value:=[.int .u8 m.1,.int .i64 m.2.1,.int .i64 m.2.2]
def rowLM (hv:Value) (V:Nat→Value) (N:List (List Int)) (mv:Value) (ms:List (Int×Int×Int)):Option (Option Nat)→RowX
 | none=>⟨96,3,mv,ms.length,ms.flatMap mgC⟩
 | some q=>rowL hv V N q
def inLM (N:List (List Int)):Option (Option Nat)→Prop
 | none=>True
 | some q=>inL N q
def LeadR (w:World) (lo:Nat) (hv:Value) (N:List (List Int)) (mv:Value) (ms:List (Int×Int×Int)):Prop:=∃ V,RowsX w lo (inLM N) (rowLM hv V N mv ms)
theorem LeadR.nil (w:World) (lo:Nat):LeadR w lo (.slice none 0 0) [] (.slice none 0 0) []:=by
 refine⟨fun _=>.slice none 0 0,fun q hq=>?_,fun q q' hq hq' hne g e1 e2=>?_⟩
 ·match q with
  | none=>exact World.ownsRow_nil _ _ _ _
  | some none=>exact World.ownsRow_nil _ _ _ _
  | some (some j)=>exact absurd hq (Nat.not_lt_zero j)
 ·match q with
  | none=>simp [rowLM,Value.ownBlock] at e1
  | some none=>simp [rowLM,rowL,Value.ownBlock] at e1
  | some (some j)=>exact absurd hq (Nat.not_lt_zero j)
theorem LeadR.below {w w':World} {lo:Nat} {hv mv:Value} {N:List (List Int)} {ms:List (Int×Int×Int)} (h:LeadR w lo hv N mv ms) (hb:Below w.heap.size w w'):LeadR w' lo hv N mv ms:=by
 obtain⟨V,hV⟩:=h
 exact⟨V,hV.kept (ob:=none) ⟨hb.os,hb.tape,hb.output,hb.size,fun k hk _=>hb.block k hk⟩ (fun g e=>by cases e)⟩
theorem LeadR.lists {w:World} {lo:Nat} {hv mv:Value} {N:List (List Int)} {ms:List (Int×Int×Int)} (h:LeadR w lo hv N mv ms):OwnL w lo hv N:=by
 obtain⟨V,hV⟩:=h
 exact⟨V,fun q hq=>hV.own (some q) hq,fun q q' hq hq' hne g e1 e2=>hV.apart (some q) (some q') hq hq' (by simpa using hne) g e1 e2⟩
theorem LeadR.merges {w:World} {lo:Nat} {hv mv:Value} {N:List (List Int)} {ms:List (Int×Int×Int)} (h:LeadR w lo hv N mv ms):w.ownsRow lo 96 3 mv ms.length (ms.flatMap mgC):=by
 obtain⟨V,hV⟩:=h
 exact hV.own none trivial
theorem LeadR.pushM {w w':World} {lo:Nat} {hv mv mv':Value} {N:List (List Int)} {ms:List (Int×Int×Int)} (h:LeadR w lo hv N mv ms) (m:Int×Int×Int) (hg:w.grownBy w' mv.ownBlock) (hv':mv'.ownBlock=mv.ownBlock∨∀ g,mv'.ownBlock=some g→w.heap.size≤g) (ho:w'.ownsRow lo 96 3 mv' (ms.length+1) (ms.flatMap mgC++mgC m)):LeadR w' lo hv N mv' (ms++[m]):=by
 obtain⟨V,hV⟩:=h
 refine⟨V,hV.put none trivial hg ?_ hv' ?_⟩
 ·unfold RowX.own rowLM
  simp only [List.length_append,List.length_singleton,List.flatMap_append,List.flatMap_cons,List.flatMap_nil,List.append_nil]
  exact ho
 ·intro q hq hne
  cases q with
  | none=>exact absurd rfl hne
  | some q=>rfl
theorem LeadR.pushN {W w:World} {lo:Nat} {hv mv:Value} {N:List (List Int)} {ms:List (Int×Int×Int)} (h:LeadR W lo hv N mv ms) (hb:Below W.heap.size W w) {v:Value} {l:List Int} (hlo:lo≤W.heap.size) (hvr:w.ownsRow W.heap.size 3 1 v l.length (l.map (Value.int .i64))) :
  ∃ cs,w.ownsRow lo 26 1 hv N.length cs∧∀ (w':World) (hv':Value),w.grownBy w' hv.ownBlock→(hv'.ownBlock=hv.ownBlock∨∀ g,hv'.ownBlock=some g→w.heap.size≤g)→w'.ownsRow lo 26 1 hv' (N.length+1) (cs++[v])→LeadR w' lo hv' (N++[l]) mv ms:=by
 obtain⟨V,hV0⟩:=h
 have hV:RowsX w lo (inLM N) (rowLM hv V N mv ms):=hV0.kept (ob:=none) ⟨hb.os,hb.tape,hb.output,hb.size,fun k hk _=>hb.block k hk⟩ (fun g e=>by cases e)
 refine⟨cellsL V N.length,hV.own (some none) trivial,fun w' hv' hg hvb hh=>?_⟩
 have hold:∀ q,inLM N q→∀ g,(rowLM hv V N mv ms q).v.ownBlock=some g→g<W.heap.size:=fun q hq g e=>(World.ownsRow.lt (hV0.own q hq) g e).2
 have hR:RowsX w lo (fun q=>inLM (N++[l]) q) (fun q=>if q=some (some N.length) then ⟨3,1,v,l.length,l.map (Value.int .i64)⟩ else rowLM hv V N mv ms q):=by
  refine hV.fresh (some (some N.length)) (B:=W.heap.size) ?_ ?_ ?_ ?_ hold
  ·intro q hq hne
   match q with
   | none=>trivial
   | some none=>trivial
   | some (some j) =>
    have hj:j<(N++[l]).length:=hq
    simp at hj hne
    show j<N.length
    omega
  ·intro q hq hne
   exact if_neg hne
  ·show (if _ then _ else _:RowX).own w lo
   rw [if_pos rfl]
   exact own_mono hvr hlo
  ·intro g e
   rw [if_pos rfl] at e
   exact (World.ownsRow.lt hvr g e).1
 refine⟨fun k=>if k=N.length then v else V k,?_⟩
 refine hR.put (some none) trivial (by simpa [rowLM,rowL] using hg) ?_ (by simpa [rowLM,rowL] using hvb) ?_
 ·unfold RowX.own rowLM rowL
  simp only [List.length_append,List.length_singleton]
  rw [← cellsL_succ]
  exact hh
 ·intro q hq hne
  match q with
  | none=>simp [rowLM]
  | some none=>exact absurd rfl hne
  | some (some j) =>
   have hj:j<(N++[l]).length:=hq
   simp at hj
   by_cases e:j=N.length
   ·subst e
    simp [rowLM,rowL,rowN_last]
   ·have hjl:j<N.length:=by omega
    simp [rowLM,rowL,e,rowN_app N l j hjl]
theorem ofV_look (n:Int):∃ m,ofV n=formV m (lookF refT n).1:=by
 unfold ofV
 cases h:(lookF refT n).2
 ·rw [(lookF_false h).1];exact⟨0,rfl⟩
 ·exact⟨n,rfl⟩
theorem letterI_none (i:Int):letterI noFrm i=0:=by
 unfold letterI
 split
 ·rfl
 ·split
  ·rename_i h1 h2
   have:(noFrm.2.2.2.1.size:Int)=0:=rfl
   omega
  ·have:mayB noFrm (i - noFrm.2.2.2.1.size)=false:=rfl
   rw [this];rfl
set_option maxRecDepth 10000 in
set_option maxHeartbeats 2000000 in
theorem refLetter_any (n i:Int) (w:World) (h1:i<9223372036854775808) :
  Calls Tryz.prog 154 #[.int .u16 n,.int .i64 i] w fun e w'=>e=.returned (.int .u8 (letterI (lookF refT n).1 i))∧Below w.heap.size w w':=by
 have hR:=fun w=>refOf_any n w
 obtain⟨m,hm⟩:=ofV_look n
 rw [hm] at hR
 clear hm
 have hs:=look_short n
 have HN:Hid ((lookF refT n).2=false→(lookF refT n).1=noFrm):=fun h=>by rw [(lookF_false h).1]
 generalize (lookF refT n).1=f at *
 generalize (lookF refT n).2=is at *
 have HL:Hid (∃ x,x=letterI f i):=⟨_,rfl⟩
 have hs2:=hs
 simp only [shortF,Bool.and_eq_true,decide_eq_true_eq] at hs
 obtain⟨⟨⟨s1,s2⟩,s3⟩,s4⟩:=hs
 obtain⟨nm,t,r,fx,rs,mo,pa⟩:=f
 simp only at s1 s2 s3 s4
 clear hs2 HL
 cases is
 ·have HE:Hid (letterI (nm,t,r,fx,rs,mo,pa) i=0):=by show _=_;rw [HN.out rfl];exact letterI_none i
  clear HN
  unfold formV at hR
  go_enter Tryz.func154,Tryz.ntmps154
  go_wp2_with fail
  refine (hR _).mono ?_
  rintro e w1 ⟨rfl,hb⟩
  clear hR
  go_wp2
  go_ret
  exact⟨by rw [HE.out];rfl,hb.alloc hb.size _⟩
 ·clear HN
  by_cases hi:i<0
  ·have HE:Hid (letterI (nm,t,r,fx,rs,mo,pa) i=0):=by show _=_;unfold letterI;rw [if_pos hi]
   unfold formV at hR
   go_enter Tryz.func154,Tryz.ntmps154
   go_wp2_with fail
   refine (hR _).mono ?_
   rintro e w1 ⟨rfl,hb⟩
   clear hR
   go_wp2
   go_ret
   exact⟨by rw [HE.out];rfl,hb.alloc hb.size _⟩
  ·have hid:decide (i<0)=false:=by simpa using hi
   obtain⟨k,rfl⟩:=Int.eq_ofNat_of_zero_le (show 0≤i by omega)
   by_cases hx:(k:Int)<fx.size
   ·have HE:Hid (letterI (nm,t,r,fx,rs,mo,pa) k=sgn fx k):=by show _=_;unfold letterI;rw [if_neg hi,if_pos hx,Int.toNat_natCast]
    have hk:k<fx.size:=by omega
    have hsg:=sgn_at fx k hk
    unfold formV at hR
    go_enter Tryz.func154,Tryz.ntmps154
    go_wp2_with fail
    refine (hR _).mono ?_
    rintro e w1 ⟨rfl,hb⟩
    clear hR
    go_wp2
    go_ret
    exact⟨by rw [HE.out];rfl,hb.alloc hb.size _⟩
   ·by_cases hr:rs.size=0
    ·have HE:Hid (letterI (nm,t,r,fx,rs,mo,pa) k=0):=by show _=_;unfold letterI;rw [if_neg hi,if_neg hx];simp [mayB,hr]
     have hrz:(((rs.size:Nat):Int)==0)=true:=by simp [hr]
     have hxd:¬ k<fx.size:=by omega
     clear hr hx hi h1 s3 s4 s1 s2
     unfold formV at hR
     go_enter Tryz.func154,Tryz.ntmps154
     go_wp2_with fail
     refine (hR _).mono ?_
     rintro e w1 ⟨rfl,hb⟩
     clear hR
     go_wp2
     go_ret
     exact⟨by rw [HE.out];rfl,hb.alloc hb.size _⟩
    ·have hrz:(((rs.size:Nat):Int)==0)=false:=by simp [hr]
     have hr0:(0:Int)<(rs.size:Int):=by omega
     have hz:¬ (rs.size:Int)=0:=by omega
     obtain⟨b,hb⟩:∃ b:Nat,(k:Int) - (fx.size:Int)=b:=⟨k - fx.size,by omega⟩
     have hw1:IntKind.i64.wrap ((k:Int) - (fx.size:Int))=b:=by rw [hb];exact wrapI _ (by omega) (by omega)
     have hbl:(b:Int)<9223372036854775808:=by omega
     have ht:Int.tdiv (b:Int) (rs.size:Int)=(b:Int) / (rs.size:Int):=Int.tdiv_eq_ediv_of_nonneg (by omega)
     have hq0:0≤(b:Int) / (rs.size:Int):=Int.ediv_nonneg (by omega) (by omega)
     have hq1:(b:Int) / (rs.size:Int)≤b:=Int.ediv_le_self _ (by omega)
     have hw:IntKind.i64.wrap ((b:Int) / (rs.size:Int))=(b:Int) / (rs.size:Int):=wrapI _ (by omega) (by omega)
     have HM:Hid (mayB (nm,t,r,fx,rs,mo,pa) b=if mo=0 then true else decide ((b:Int) / (rs.size:Int)<mo)):=by show _=_;simp [mayB,hr]
     have tm:Int.tmod (b:Int) (rs.size:Int)=(b:Int) % (rs.size:Int):=Int.tmod_eq_emod_of_nonneg (by omega)
     have m0:0≤(b:Int) % (rs.size:Int):=Int.emod_nonneg _ hz
     have m1:(b:Int) % (rs.size:Int)<(rs.size:Int):=Int.emod_lt_of_pos _ hr0
     have hw2:IntKind.i64.wrap ((b:Int) % (rs.size:Int))=(b:Int) % (rs.size:Int):=wrapI _ (by omega) (by omega)
     have HE:Hid (letterI (nm,t,r,fx,rs,mo,pa) k=if mayB (nm,t,r,fx,rs,mo,pa) b then sgn rs ((b:Int) % (rs.size:Int)).toNat else 0):=by show _=_;unfold letterI;rw [if_neg hi,if_neg hx];simp only [hb]
     by_cases hc:mo > 0∧(b:Int) / (rs.size:Int) ≥ mo
     ·have HF:Hid (letterI (nm,t,r,fx,rs,mo,pa) k=0):=by show _=_;rw [HE.out,HM.out,if_neg (show ¬ mo=0 by omega),decide_eq_false (by omega)];rfl
      clear HE HM tm m0 m1 hw2 hb
      have hxd:¬ k<fx.size:=by omega
      obtain⟨hc1,hc2⟩:=hc
      clear hx hi hr h1 hbl s1 s2 hq1
      have g1:decide (mo > 0)=true:=by simpa using hc1
      have g2:decide (mo≤(b:Int) / (rs.size:Int))=true:=by simpa using hc2
      unfold formV at hR
      go_enter Tryz.func154,Tryz.ntmps154
      go_wp2_with fail
      refine (hR _).mono ?_
      rintro e w1 ⟨rfl,hb⟩
      clear hR
      go_wp2
      go_quiet (fail)
      go_wp2
      go_ret
      exact⟨by rw [HF.out];rfl,bel_drewN (hb.alloc hb.size _) _⟩
     ·have hmb:mayB (nm,t,r,fx,rs,mo,pa) b=true:=by
       rw [HM.out]
       split
       ·rfl
       ·exact decide_eq_true (by omega)
      obtain⟨j,hj⟩:=Int.eq_ofNat_of_zero_le m0
      have HF:Hid (letterI (nm,t,r,fx,rs,mo,pa) k=sgn rs j):=by show _=_;rw [HE.out,hmb,if_pos rfl,hj];rfl
      rw [hj] at tm hw2
      have hjl:j<rs.size:=by omega
      have hsg:=sgn_at rs j hjl
      have hxd:¬ k<fx.size:=by omega
      clear HE HM hmb hb hj m0 m1
      by_cases g1:mo > 0
      ·have g2:decide (mo≤(b:Int) / (rs.size:Int))=false:=decide_eq_false (by omega)
       have g1':decide (mo > 0)=true:=decide_eq_true g1
       clear hx hi hr h1 hbl s1 s2 hq1 hc g1
       unfold formV at hR
       go_enter Tryz.func154,Tryz.ntmps154
       go_wp2_with fail
       refine (hR _).mono ?_
       rintro e w1 ⟨rfl,hb⟩
       clear hR
       go_wp2
       go_quiet (fail)
       go_wp2
       go_quiet (fail)
       go_wp2
       go_ret
       exact⟨by rw [HF.out];rfl,bel_drewN (bel_drewN (hb.alloc hb.size _) _) _⟩
      ·have g1':decide (mo > 0)=false:=decide_eq_false g1
       clear hx hi hr h1 hbl s1 s2 hq1 hc g1 s3 s4
       unfold formV at hR
       go_enter Tryz.func154,Tryz.ntmps154
       go_wp2_with fail
       refine (hR _).mono ?_
       rintro e w1 ⟨rfl,hb⟩
       clear hR
       go_wp2
       go_quiet (fail)
       go_wp2
       go_quiet (fail)
       go_wp2
       go_ret
       exact⟨by rw [HF.out];rfl,bel_drewN (bel_drewN (hb.alloc hb.size _) _) _⟩
theorem rows_whole (fx rs m d:Nat) (hd:rs ∣ d) (hge:m≤fx+d) (h:d=0∨(fx+d<m+rs)):(decide ((m:Int) - fx=0) || (decide (0<(m:Int) - fx) && decide (((m:Int) - fx) % rs=0)))=decide (fx+d=m):=by
 rw [Bool.eq_iff_iff]
 simp only [Bool.or_eq_true,Bool.and_eq_true,decide_eq_true_eq]
 constructor
 ·rintro (h1 | ⟨h1,h2⟩)
  ·rcases h with rfl | h
   ·omega
   ·have hdz:d=0:=Nat.eq_zero_of_dvd_of_lt hd (by omega)
    omega
  ·have hlt:fx<m:=by omega
   have e:((m:Int) - fx)=((m - fx:Nat):Int):=by omega
   rw [e] at h2
   have h3:rs ∣ (m - fx):=by exact_mod_cast Int.dvd_of_emod_eq_zero h2
   rcases h with rfl | h
   ·omega
   ·have h4:rs ∣ d - (m - fx):=Nat.dvd_sub hd h3
    have:=Nat.eq_zero_of_dvd_of_lt h4 (by omega)
    omega
 ·intro h1
  by_cases hz:(m:Int) - fx=0
  ·exact .inl hz
  ·refine .inr ⟨by omega,?_⟩
   have e:((m:Int) - fx)=(d:Int):=by omega
   rw [e]
   exact Int.emod_eq_zero_of_dvd (by exact_mod_cast hd)
set_option maxRecDepth 10000 in
set_option maxHeartbeats 4000000 in
theorem refFits_any (n:Int) (a:Option Addr) (m cap:Nat) (zs:List Int) (w:World) (hv:View .u8 w a zs) (hl:zs.length=m) (hm:m≤140737488351232) :
  Calls Tryz.prog 120 #[.int .u16 n,.slice a m cap] w fun e w'=>e=.returned (.tuple #[.int .i64 (fitsI (lookF refT n).2 (lookF refT n).1 zs).1,.bool (fitsI (lookF refT n).2 (lookF refT n).1 zs).2])∧Below w.heap.size w w':=by
 have hR:=fun w=>refOf_any n w
 obtain⟨mm,hmm⟩:=ofV_look n
 rw [hmm] at hR
 clear hmm
 have HL:Hid (zs.length=m):=hl
 have HLT:Hid (∀ (i:Int) w,i<9223372036854775808→_):=fun i w (h:i<9223372036854775808)=>refLetter_any n i w h
 have hs:=look_short n
 clear hl
 generalize (lookF refT n).1=f at *
 generalize (lookF refT n).2=is at *
 have hs2:=hs
 simp only [shortF,Bool.and_eq_true,decide_eq_true_eq] at hs2
 obtain⟨⟨⟨s1,s2⟩,s3⟩,s4⟩:=hs2
 clear hs s3 s4
 cases is
 ·unfold formV at hR
  clear HLT hv HL hm
  go_enter Tryz.func120,Tryz.ntmps120
  go_wp2_with fail
  refine (hR _).mono ?_
  rintro e w1 ⟨rfl,hb⟩
  clear hR
  go_wp2
  go_ret2
  exact⟨rfl,hb.alloc hb.size _⟩
 ·go_enter Tryz.func120,Tryz.ntmps120
  go_wp2_with fail
  refine (hR _).mono ?_
  rintro e w1 ⟨rfl,hb⟩
  clear hR
  have hbel:Below w.heap.size w (w1.alloc (.cells (frmCells mm f) 167)):=hb.alloc hb.size _
  have hblk:=alloc_new w1 (frmCells mm f) 167
  unfold formV
  go_wp2_with fail
  rw [show (w1.alloc (.cells #[.int .u16 mm,.string f.1,.bool f.2.1,.bool f.2.2.1,.string f.2.2.2.1,.string f.2.2.2.2.1,.int .i64 f.2.2.2.2.2.1,.int .u8 f.2.2.2.2.2.2] 167))=w1.alloc (.cells (frmCells mm f) 167) from rfl]
  have HV:Hid (∀ k,k<m→_):=fun k (hk:k<m)=>(hv.below hbel) k (by rw [HL.out];exact hk)
  have HB:Hid (Below w.heap.size w (w1.alloc (.cells (frmCells mm f) 167))):=hbel
  have HK:Hid ((w1.alloc (.cells (frmCells mm f) 167)).heap[w1.heap.size]?=some (.cells (frmCells mm f) 167 (0,0))):=hblk
  have HZ:Hid (w1.heap.size<(w1.alloc (.cells (frmCells mm f) 167)).heap.size):=by show _<_;simp
  generalize w1.alloc (.cells (frmCells mm f) 167)=W at *
  clear hbel hblk hb hv
  go_loopw [4,5,8] (fun r b i wr=>r=.int .i64 0∧b=.bool false∧∃ k:Nat,k≤m∧i=.int .i64 k∧Below W.heap.size W wr∧∀ j,j<k→badK f zs j=false) (fun _ _ i _=>m - (intOf i).toNat)
  case atStart=>exact⟨rfl,rfl,0,Nat.zero_le _,rfl,Below.refl _ _,fun j hj=>by omega⟩
  case round =>
   obtain⟨rfl,rfl,k,hk,rfl,hbw,hno⟩:=hrel
   have HO:Hid (∀ j,j<k→badK f zs j=false):=hno
   clear hno
   by_cases hlt:k<m
   ·obtain⟨b,off,rfl,hbs,hcell⟩:=HV.out k hlt
    have HBK:Hid (badK f zs k=((letterI f k==0) || !(kindI (letterI f k)==nth zs k))):=rfl
    have HHIT:Hid (badK f zs k=true→fitsI true f zs=((k:Int),false)):=fun hb=>by
     have e:=range_find zs.length k (by rw [HL.out];exact hlt) HO.out hb
     show (match (List.range zs.length).find? (badK f zs) with | some k=>((k:Int),false) | none=>_)=_
     rw [e]
    have HS:Hid (badK f zs k=false→∀ j,j<k+1→badK f zs j=false):=fun hb j hj=>by
     by_cases e:j=k
     ·subst e;exact hb
     ·exact HO.out j (by omega)
    have hLt:=HLT.out k wr (by omega)
    have hKd:=fun w=>refKind_any (letterI f k) w
    generalize letterI f k=x at *
    generalize kindI x=y at *
    generalize nth zs k=z at *
    clear HO HV HLT
    go_wp2_with fail
    refine hLt.mono ?_
    rintro e w2 ⟨rfl,hb2⟩
    clear hLt
    have hbW:Below W.heap.size W w2:=hbw.trans (hb2.mono hbw.size)
    have hcw:w2.cell? ⟨b,off+k,none⟩=some (.int .u8 z):=(hbW.cell (p:=⟨b,off+k,none⟩) hbs).trans hcell
    have hb2s:b<w2.heap.size:=Nat.lt_of_lt_of_le hbs hbW.size
    have HW2:Hid (Below W.heap.size W w2):=hbW
    clear hb2 hbw hcell hbW
    have hki:(k:Int)<(m:Int):=by omega
    have hk0:(0:Int)≤(k:Int):=by omega
    by_cases hx:x=0
    ·subst hx
     have HE:Hid (fitsI true f zs=((k:Int),false)):=HHIT.out (by rw [HBK.out];rfl)
     clear HHIT HS HBK
     go_wp2
     go_quiet (fail)
     go_wp2
     try rw [Exit.noGoto_ret]
     go_ret2
     exact⟨by rw [HE.out];rfl,HB.out.trans ((bel_drewN HW2.out _).mono HB.out.size)⟩
    ·have hx':(x==0)=false:=by simpa using hx
     clear hx
     have HY:Hid ((y=z→∀ j,j<k+1→badK f zs j=false)∧(y≠z→fitsI true f zs=((k:Int),false))):=⟨fun h=>HS.out (by rw [HBK.out,hx',h];simp),fun h=>HHIT.out (by rw [HBK.out,hx'];simpa using h)⟩
     clear HHIT HS HBK
     go_wp2
     go_region_with ((go_at_call 158;refine (hKd _).mono ?_;rintro e w3 ⟨rfl,hb3⟩;have hcx:w3.cell? ⟨b,off+k,none⟩=some (.int .u8 z):=(hb3.cell (p:=⟨b,off+k,none⟩) hb2s).trans hcw))
     all_goals
      have HW3:Hid (Below W.heap.size W w3):=HW2.out.drew.trans (hb3.mono HW2.out.size)
      clear hb3 hcx hKd
      by_cases hy:y=z
      ·subst hy
       have HE:Hid (∀ j,j<k+1→badK f zs j=false):=HY.out.1 rfl
       clear HY
       go_wp2
       go_roundw
       case rel=>exact⟨rfl,rfl,k+1,by omega,by go_num,HW3.out,HE.out⟩
       case measure=>simp [intOf];omega
      ·have HE:Hid (fitsI true f zs=((k:Int),false)):=HY.out.2 hy
       have hy':(y != z)=true:=by simpa using hy
       clear HY hy
       go_wp2
       try rw [Exit.noGoto_ret]
       go_ret2
       exact⟨by rw [HE.out];rfl,HB.out.trans (HW3.out.mono HB.out.size)⟩
   ·obtain rfl:k=m:=by omega
    have hno:∀ j,j<zs.length→badK f zs j=false:=fun j hj=>HO.out j (by rw [HL.out] at hj;exact hj)
    have HF2:Hid (fitsI true f zs=if wholeB f k then (0,true) else ((k:Int),false)):=by
     show (match (List.range zs.length).find? (badK f zs) with | some k=>((k:Int),false) | none=>if wholeB f zs.length then (0,true) else ((zs.length:Int),false))=_
     rw [range_not zs.length hno,HL.out]
    have HRS:Hid (f.2.2.2.1.size<k→f.2.2.2.2.1.size≠0):=fun h=>rest_of_letters hno (by rw [HL.out];exact h)
    have HWH:Hid (wholeB f k=(decide ((k:Int) - f.2.2.2.1.size=0) || (decide (0<(k:Int) - f.2.2.2.1.size) && decide (((k:Int) - f.2.2.2.1.size) % f.2.2.2.2.1.size=0)))):=rfl
    have hblk:=(hbw.block _ HZ.out).trans HK.out
    obtain⟨d0,d1,d2,d3,d4,d5,d6,d7,df⟩:=frm_cells hblk
    have HBW:Hid (Below W.heap.size W wr):=hbw
    generalize wholeB f k=y at *
    generalize f.2.2.2.1=fx at *
    generalize f.2.2.2.2.1=rs at *
    clear hno HO HV HLT hblk d0 d1 d2 d3 d6 d7 df hbw
    go_wp2
    go_loop [10] (fun i=>∃ d:Nat,i=.int .i64 ((fx.size:Int)+d)∧rs.size ∣ d∧(d=0∨fx.size+d<k+rs.size)) (fun i=>(k+1 - (intOf i).toNat))
    case atStart=>exact⟨0,by simp,Nat.dvd_zero _,.inl rfl⟩
    case round =>
     obtain⟨d,rfl,hd,hd2⟩:=hrel
     have HD:Hid (rs.size ∣ d):=hd
     clear hd
     by_cases hl2:fx.size+d<k
     ·have hr0:rs.size≠0:=HRS.out (by omega)
      have ht:(fx.size:Int)+(d:Int)<(k:Int):=by omega
      have hdb:(d:Int)≤140737488351232:=by omega
      go_wp2
      go_round
      case rel=>exact⟨d+rs.size,by go_num,Nat.dvd_add HD.out (Nat.dvd_refl _),.inr (by omega)⟩
      case measure=>simp [intOf];omega
     ·have ht:¬ (fx.size:Int)+(d:Int)<(k:Int):=by omega
      have e:=rows_whole fx.size rs.size k d HD.out (by omega) hd2
      rw [← HWH.out] at e
      have HD2:Hid (d=0∨fx.size+d<k+rs.size):=hd2
      clear HWH hd2
      by_cases hq:fx.size+d=k
      ·have ey:y=true:=by rw [e];exact decide_eq_true hq
       subst ey
       have hq':((fx.size:Int)+(d:Int) != (k:Int))=false:=by simp;omega
       clear e hq
       go_wp2
       go_ret2
       exact⟨by rw [HF2.out];rfl,HB.out.trans (HBW.out.mono HB.out.size)⟩
      ·have ey:y=false:=by rw [e];exact decide_eq_false hq
       subst ey
       have hq':((fx.size:Int)+(d:Int) != (k:Int))=true:=by simp;omega
       clear e hq
       go_wp2
       go_ret2
       exact⟨by rw [HF2.out];rfl,HB.out.trans (HBW.out.mono HB.out.size)⟩
theorem wpList_appK {w:World} {ops:Array Oper} {rest:List Oper} {o:Oper} {a:Act} {Q:Exit→Act→World→Prop} (hgd:o.guard=none) (s x:Operand) (k:IntKind) (e t:TypeId) (by_:Nat) (ho:o.op=.call { callee:=.builtin .append,args:=#[s,x],argTypes:=#[t,t] })
  (hu:Tryz.prog.underlying t=some (.slice e)) (hinf:(Tryz.prog.info? e).map (fun i=>(i.zero,i.size,i.bytes))=some (some (.int k 0),1,by_)) (hby:by_≤8)
  (lo:Nat) (v:Value) (zs:List Int) (y:Int) (hs:a.eval s=v) (B:Nat) (hx:a.eval x=.slice (some ⟨B,0,none⟩) 1 1) (hB:w.heap[B]?=some (.cells #[.int k y] e (0,0))) (hown:w.ownsRow lo e 1 v zs.length (zs.map (Value.int k))) (hn:zs.length<17592186044415) (hlo:lo≤w.heap.size)
  (h:∀ g cap w',w'.ownsRow lo e 1 (.slice (some ⟨g,0,none⟩) (zs.length+1) cap) (zs++[y]).length ((zs++[y]).map (Value.int k))→w.grownBy w' v.ownBlock→(v.ownBlock=some g∨g=w.heap.size)→wpList Tryz.prog ops Q rest (a.put o.dst (.slice (some ⟨g,0,none⟩) (zs.length+1) cap)) w'):wpList Tryz.prog ops Q (o :: rest) a w:=by
 obtain⟨i0,hi,hz0,hz1,hz2⟩:=info_parts hinf
 refine wpList_append_lies w hgd s x t ho lo e i0 (.int k 0) 1 by_ hu hi hz0 hz1 hz2 rfl (by decide) v zs.length (zs.map (Value.int k)) hs hown ⟨B,0,none⟩ 1 1 [.int k y] hx rfl (World.news_of_block (cs:=#[.int k y]) (t:=e) (fr:=(0,0)) hB) (by intro u hu;simp at hu;subst hu;rfl) (by decide) (by unfold maxLen;omega) (Nat.le_trans (Nat.mul_le_mul_left _ hby) (by omega)) hlo w.heap.size rfl ?_
 intro g cap w' h1 h2 h3 _
 exact h g cap w' (by simpa using h1) h2 h3
def fitB (x:InstT):Bool:=(fitsI (lookF refT x.1).2 (lookF refT x.1).1 (kindsL x.2.2.2)).2
set_option maxHeartbeats 2000000 in
theorem graphFits_any (x:InstT) (a:Option Addr) (m cap:Nat) (w:World) (hv:ArgsV w a x.2.2.2) (hl:x.2.2.2.length=m) (hm:24 * m≤140737488351232) :
  Calls Tryz.prog 140 #[instV x a m cap] w fun e w'=>e=.returned (.bool (fitB x))∧Below w.heap.size w w':=by
 obtain⟨i0,hi,hz0,hz1,hz2⟩:=info_parts Whole.info
 obtain⟨xo,xt,xr,l⟩:=x
 simp only at hv hl
 unfold instV fitB
 show Calls Tryz.prog 140 #[.agg #[.int .u16 xo,.int .u32 xt,.int .u32 xr,.slice a m cap]] w fun e w'=>e=.returned (.bool (fitsI (lookF refT xo).2 (lookF refT xo).1 (kindsL l)).2)∧Below w.heap.size w w'
 have HL:=hide hl
 have hF:=fun (g:Nat) (w:World) (h:View .u8 w (some ⟨g,0,none⟩) (kindsL l))=>fits_any xo (some ⟨g,0,none⟩) m m (kindsL l) w h (by rw [kindsL,List.length_map];exact hl) (by omega)
 have HF:=hide hF
 have HV:=hide hv
 generalize fitsI (lookF refT xo).2 (lookF refT xo).1 (kindsL l)=r at *
 clear hl hF hv
 go_enter Tryz.func140,Tryz.ntmps140
 go_wp2_with (at_make;refine wpList_make_full _ rfl _ _ 171 rfl (w.heap.size+1) 5 i0 (.int .u8 0) 1 Tryz.underlying171 hi hz0 hz1 _ _ _ _ m rfl rfl (by omega) (by omega) (by rw [hz2];omega) (by unfold maxLen;omega) (by simp) ?_)
 intro w1 hown1 hgrow1
 have hba:Below w.heap.size w (w.alloc (.cells #[.int .u16 xo,.int .u32 xt,.int .u32 xr,.slice a m cap] 63)):=(Below.refl _ _).alloc (Nat.le_refl _) _
 have hb1:Below (w.heap.size+1) (w.alloc (.cells #[.int .u16 xo,.int .u32 xt,.int .u32 xr,.slice a m cap] 63)) w1:=(Below.refl _ _).grown hgrow1 (by simp) (by simp)
 have hbox:w1.heap[w.heap.size]?=some (.cells #[.int .u16 xo,.int .u32 xt,.int .u32 xr,.slice a m cap] 63 (0,0)):=(hb1.block w.heap.size (by omega)).trans (allocNew _ _ rfl)
 have hbw:Below w.heap.size w w1:=hba.trans (hb1.mono (by omega))
 have hr1:=made_row (kindsL l) hown1
 try simp only [World.size_alloc] at hr1
 have HS0:=hide (And.intro hr1 (And.intro hbox hbw))
 have c3:=(one_block hbox).1 3
 clear hown1 hgrow1 hba hb1 hbox hbw hr1
 go_wp2_with fail
 go_loopw [15] (fun i wr=>∃ k:Nat,k≤m∧i=.int .i64 k∧wr.ownsRow (w.heap.size+1) 5 1 (.slice (some ⟨w.heap.size+1,0,none⟩) m m) m ((filled (kindsL l) k m).map (Value.int .u8))∧wr.heap[w.heap.size]?=some (.cells #[.int .u16 xo,.int .u32 xt,.int .u32 xr,.slice a m cap] 63 (0,0))∧Below w.heap.size w wr)
  (fun i _=>m - (intOf i).toNat)
 case atStart=>exact⟨0,Nat.zero_le _,rfl,HS0.out.1,HS0.out.2.1,HS0.out.2.2⟩
 case round =>
  obtain⟨k,hk,rfl,hown,hbox,hnx⟩:=hrel
  clear c3
  by_cases hlt:k<m
  ·obtain⟨b,off,rfl,hbs,c1,c2,c3⟩:=HV.out k (by rw [HL.out];exact hlt)
   have hkl:k<(kindsL l).length:=by rw [kindsL,List.length_map,HL.out];exact hlt
   have hkn:=kindsL_nth l k (by rw [HL.out];exact hlt)
   have q1:=(hnx.cell (p:=⟨b,off+k * 3,none⟩) hbs).trans c1
   have q2:=(hnx.cell (p:=⟨b,off+k * 3+1,none⟩) hbs).trans c2
   have q3:=(hnx.cell (p:=⟨b,off+k * 3+2,none⟩) hbs).trans c3
   generalize nthA l k=z at q1 q2 q3 hkn
   obtain⟨z1,z2,z3⟩:=z
   simp only at q1 q2 q3 hkn
   have hbA:Below wr.heap.size wr (wr.alloc (.cells #[.int .u8 z1,.int .u32 z2,.string z3] 105)):=(Below.refl _ wr).alloc (Nat.le_refl _) _
   obtain⟨d1,d2,d3⟩:=fill_step (own_below hown hbA) hlt hkl
   rw [hkn] at d3
   have hki:(k:Int)<(m:Int):=by omega
   have HLT:=hide hlt
   have HD3:=hide d3
   have HNX:=hide (hnx.trans (hbA.mono hnx.size))
   have HBX:=hide (allocOld hbox (.cells #[.int .u8 z1,.int .u32 z2,.string z3] 105))
   clear c1 c2 c3 hown d3 hkl HS0 hnx hbox hk hlt hbs hkn hbA
   go_wp2_with fail
   refine⟨⟨k+1,HLT.out,by simp,HD3.out,?_,?_⟩,measZ2 HLT.out⟩
   ·exact (Below.heap_setCell _ _ _ _ (by simp)).trans HBX.out
   ·exact HNX.out.setCell (p:=⟨w.heap.size+1,k,none⟩) (by simp) _
  ·have e:m=k:=by omega
   subst e
   rw [filled_whole (kindsL l) m (by rw [kindsL,List.length_map,HL.out])] at hown
   have c0:=(one_block hbox).1 0
   have hV:=View.ofRow hown (by rw [kindsL,List.length_map,HL.out])
   have hf:=HF.out _ _ hV
   have HNX:=hide hnx
   clear hown hV HS0 hbox hnx hk
   go_wp2_with fail
   refine hf.mono ?_
   rintro e w2 ⟨rfl,hb2⟩
   have HFIN:=hide (HNX.out.trans (hb2.mono HNX.out.size))
   clear hb2 hf
   obtain⟨r1,r2⟩:=r
   go_wp2_with fail
   go_ret
   exact⟨rfl,HFIN.out⟩
def tgA (op:Int):Int×Int:=if op=249 then (0,1) else if op=250 then (1,1) else if op=251 then (1,2) else (0,0)
set_option maxHeartbeats 2000000 in
theorem targetsAt_any (op:Int) (w:World):Calls Tryz.prog 139 #[.int .u16 op] w fun e w'=>e=.returned (.tuple #[.int .i64 (tgA op).1,.int .i64 (tgA op).2])∧w=w':=by
 unfold tgA
 rcases Decidable.em (op=249) with rfl | h1
 ·go_enter Tryz.func139,Tryz.ntmps139
  go_wp2
  go_ret2
  exact⟨rfl,rfl⟩
 ·rw [if_neg h1]
  have h1':(op==249)=false:=by simpa using h1
  clear h1
  rcases Decidable.em (op=250) with rfl | h2
  ·go_enter Tryz.func139,Tryz.ntmps139
   go_wp2
   go_ret2
   exact⟨rfl,rfl⟩
  ·rw [if_neg h2]
   have h2':(op==250)=false:=by simpa using h2
   clear h2
   rcases Decidable.em (op=251) with rfl | h3
   ·go_enter Tryz.func139,Tryz.ntmps139
    go_wp2
    go_ret2
    exact⟨rfl,rfl⟩
   ·rw [if_neg h3]
    have h3':(op==251)=false:=by simpa using h3
    clear h3
    go_enter Tryz.func139,Tryz.ntmps139
    go_wp2
    go_ret2
    exact⟨rfl,rfl⟩
def tgB (op:Int) (k:Nat):Bool:=decide (op=249) || (decide (op=250) && decide (0<k)) || (decide (op=251) && decide (k % 2=1))
def tgP (op:Int) (l:List ArgT) (k:Nat):List Int:=((List.range (min k l.length)).filter (tgB op)).map fun j=>(nthA l j).2.1
def tgL (x:InstT):List Int:=if fitB x then tgP x.1 x.2.2.2 x.2.2.2.length else []
theorem tgP_len (op:Int) (l:List ArgT) (k:Nat):(tgP op l k).length≤l.length:=by
 unfold tgP
 rw [List.length_map]
 exact Nat.le_trans (List.length_filter_le _ _) (by simp;omega)
theorem tgP_one (op:Int) (l:List ArgT) (k:Nat) (h:k<l.length):tgP op l (k+1)=tgP op l k++(if tgB op k then [(nthA l k).2.1] else []):=by
 unfold tgP
 rw [show min (k+1) l.length=k+1 by omega,show min k l.length=k by omega,List.range_succ,List.filter_append,List.map_append]
 congr 1
 cases h2:tgB op k <;> simp [h2]
theorem tgP_past (op:Int) (l:List ArgT) (k:Nat) (h:l.length≤k):tgP op l k=tgP op l l.length:=by
 unfold tgP
 rw [show min k l.length=l.length by omega,Nat.min_self]
theorem tgP_none (op:Int) (l:List ArgT) (k:Nat) (h:∀ j,tgB op j=false):tgP op l k=[]:=by
 unfold tgP
 rw [List.filter_eq_nil_iff.2 (fun j _=>by simp [h j])];rfl
end Go.Proofs.YtlcaedibmlidlaaGreat
